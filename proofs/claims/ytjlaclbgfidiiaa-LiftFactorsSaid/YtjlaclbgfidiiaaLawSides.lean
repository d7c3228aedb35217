/- The walk of the law LiftSides. Condition: the slice lies in memory. -/
import Derived.Test.YtjlaclbgfidiiaaOwnEq
import Derived.Test.YtjlaclbgfidiiaaLawPure
import Derived.Test.YtjlaclbgfidiiaaLawWhole
namespace Go.Proofs.Ytjlaclbgfidiiaa
open Go.RowKit
attribute [local go_sem] Oper.semAt_some

theorem PolygonR_no {B : Nat} {v : Value} (p : Int) (f : List Int) (w : World) (h : Row B v f w) (hl : f.length ≤ 4611686018427387904) (hno : (isPr p && isPoly f) = false) :
    Calls Try.prog 26 #[v, .int .i64 p] w fun e w' => e = .returned (.tuple #[.slice none 0 0, .int .i64 2]) ∧ ∃ q, w' = w.drewN q := by
  obtain ⟨a, n, c, rfl, hi, hn⟩ := h.ints
  exact Polygon_no p a n c f w hi (by omega) hno
theorem PolygonR_yes {B : Nat} {v : Value} (p : Nat) (f : List Int) (w : World) (h : Row B v f w) (hp : isPr (p : Int) = true) (p2 : 2 ≤ p) (p13 : p ≤ 13) (hf : isPoly f = true) :
    Calls Try.prog 26 #[v, .int .i64 (p : Int)] w fun e w' => (∃ v, e = .returned (.tuple #[v, .int .i64 0]) ∧ Row4 w.heap.size v (polyS f p) w') ∧ Below w.heap.size w w' := by
  obtain ⟨a, n, c, rfl, hi, hn⟩ := h.ints
  exact Polygon_yes p a n c f w hi hp p2 p13 hf

set_option maxHeartbeats 8000000 in
set_option maxRecDepth 100000 in
theorem lawSides_no (a : Option Addr) (n c : Nat) (xs : List Int) (p : Int) (w : World) (h : Ints w a n xs) (hc : n ≤ c) (hn : n ≤ 4611686018427387904) (hcm : c ≤ maxLen) (hno : (isPr p && isPoly xs) = false) :
    Calls Try.prog 4 #[.slice a n c, .int .i64 p] w fun e w' => e = .returned (.bool true) ∧ Below w.heap.size w w' := by
  have hno2 : (isPr p && isPoly (xs.take 9)) = false := by rw [isPoly_take]; exact hno
  have HL := Lib.hid (fun w1 (hb : Below w.heap.size w w1) => list_row a n c xs w1 (h.below hb) hc hn hcm)
  have HP1 := Lib.hid (fun B v w1 (hr : Row B v (xs.take 9) w1) => PolygonR_no p _ w1 hr (take9_len _) hno2)
  have HP2 := Lib.hid (fun B v w1 (hr : Row B v (xs.take 9) w1) => SlopesR_no p _ w1 hr (take9_len _) hno2)
  have HP3 := Lib.hid (fun B v w1 (hr : Row B v (xs.take 9) w1) => PureR_no p _ w1 hr (take9_len _) hno2)
  have HV := Lib.hid (fun w1 (hb : Below w.heap.size w w1) => polyR_any a n c xs w1 (h.below hb) hn)
  have HPR := Lib.hid (fun w => primeR_any p w)
  obtain ⟨T1, hT1⟩ : ∃ T, isPoly xs = T := ⟨_, rfl⟩
  obtain ⟨T2, hT2⟩ : ∃ T, isPr p = T := ⟨_, rfl⟩
  rw [hT1] at HV
  rw [hT2] at HPR
  rw [hT1, hT2] at hno
  have HNO := Lib.hid hno
  clear h hno hno2 hT1 hT2
  go_enter Try.func4, Try.ntmps4
  go_wp2_with fail
  refine (HL.out w (Below.refl _ _)).mono ?_
  rintro e w1 ⟨v1, rfl, hr, hb⟩
  have HC1 := Lib.hid (HP1.out _ _ _ hr)
  have HB1 := Lib.hid hb
  clear hr hb
  go_wp2_with fail
  refine HC1.out.mono ?_
  rintro e w2 ⟨rfl, hq⟩
  have HB2 := Lib.hid (below_drew HB1.out hq)
  clear hq
  go_wp2_with fail
  refine (HL.out w2 HB2.out).mono ?_
  rintro e w3 ⟨v3, rfl, hr, hb⟩
  have HC3 := Lib.hid (HP2.out _ _ _ hr)
  have HB3 := Lib.hid (HB2.out.trans (hb.mono HB2.out.size))
  clear hr hb
  go_wp2_with fail
  refine HC3.out.mono ?_
  rintro e w4 ⟨rfl, hq⟩
  have HB4 := Lib.hid (below_drew HB3.out hq)
  clear hq
  go_wp2_with fail
  refine (HL.out w4 HB4.out).mono ?_
  rintro e w5 ⟨v5, rfl, hr, hb⟩
  have HC5 := Lib.hid (HP3.out _ _ _ hr)
  have HB5 := Lib.hid (HB4.out.trans (hb.mono HB4.out.size))
  clear hr hb
  go_wp2_with fail
  refine HC5.out.mono ?_
  rintro e w6 ⟨rfl, hq⟩
  have HB6 := Lib.hid (below_drew HB5.out hq)
  clear hq
  go_wp2_with fail
  refine (HV.out w6 HB6.out).mono ?_
  rintro e w7 ⟨rfl, rfl⟩
  cases T1 with
  | false =>
    go_wp2_with fail
    refine (awake_any _).mono ?_
    rintro e w8 ⟨rfl, hb⟩
    have HB8 := Lib.hid (HB6.out.trans (hb.mono HB6.out.size))
    clear hb
    go_wp2
    go_ret
    exact ⟨rfl, HB8.out⟩
  | true =>
    have hT2 : T2 = false := by have := HNO.out; simpa using this
    subst hT2
    go_wp2_with fail
    refine (HPR.out _).mono ?_
    rintro e w7 ⟨rfl, rfl⟩
    go_wp2_with fail
    refine (awake_any _).mono ?_
    rintro e w8 ⟨rfl, hb⟩
    have HB8 := Lib.hid (HB6.out.trans (hb.mono HB6.out.size))
    clear hb
    go_wp2
    go_ret
    exact ⟨rfl, HB8.out⟩

set_option maxHeartbeats 8000000 in
set_option maxRecDepth 100000 in
theorem lawSides_yes (a : Option Addr) (n c : Nat) (xs : List Int) (q : Nat) (w : World) (h : Ints w a n xs) (hc : n ≤ c) (hn : n ≤ 4611686018427387904) (hcm : c ≤ maxLen) (hp : isPr (q : Int) = true) (q2 : 2 ≤ q) (q13 : q ≤ 13) (hf : isPoly xs = true) :
    Calls Try.prog 4 #[.slice a n c, .int .i64 (q : Int)] w fun e w' => e = .returned (.bool true) ∧ Below w.heap.size w w' := by
  have hS9 := isPoly_short hf
  have hL := fun w1 (hb : Below w.heap.size w w1) => list_row a n c xs w1 (h.below hb) hc hn hcm
  rw [hS9] at hL
  have HL := Lib.hid hL
  have HP1 := Lib.hid (fun B v w1 (hr : Row B v xs w1) => PolygonR_yes q _ w1 hr hp q2 q13 hf)
  have HP2 := Lib.hid (fun B v w1 (hr : Row B v xs w1) => SlopesR_yes q _ w1 hr hp q2 q13 hf)
  have HP3 := Lib.hid (fun B v w1 (hr : Row B v xs w1) => PureR_yes q _ w1 hr hp q2 q13 hf)
  have hV := fun w1 (hb : Below w.heap.size w w1) => polyR_any a n c xs w1 (h.below hb) hn
  rw [hf] at hV
  have HV := Lib.hid hV
  have hPR := fun w => primeR_any (q : Int) w
  rw [hp] at hPR
  have HPR := Lib.hid hPR
  have HQ1 := Lib.hid (fun w1 (hb : Below w.heap.size w w1) => polygonR_any a n c xs q w1 (h.below hb) hf q2 q13)
  have HQ2 := Lib.hid (fun w1 (hb : Below w.heap.size w w1) => slopesR_any q a n c xs w1 (h.below hb) q2 q13 hf)
  have HQ3 := Lib.hid (fun w1 (hb : Below w.heap.size w w1) => pureR_any q a n c xs w1 (h.below hb) q2 q13 hf)
  have HLS := Lib.hid (slopes_len (q := q) hf)
  have HLP := Lib.hid (poly_ok (f := xs) (q := q) (by have := isPoly_spec hf; omega)).1
  obtain ⟨S, hS⟩ : ∃ S, polyS xs q = S := ⟨_, rfl⟩
  obtain ⟨T, hT⟩ : ∃ T, pureF xs q = T := ⟨_, rfl⟩
  rw [hS] at HP1 HP2 HQ1 HQ2 HLS HLP
  rw [hT] at HP3 HQ3
  obtain ⟨M, hM⟩ : ∃ M, slopesF S = M := ⟨_, rfl⟩
  rw [hM] at HP2 HQ2 HLS
  clear h hS9 hL hV hPR hf hp hS hT hM
  go_enter Try.func4, Try.ntmps4
  go_wp2_with fail
  refine (HL.out w (Below.refl _ _)).mono ?_
  rintro e w1 ⟨v1, rfl, hr, hb⟩
  have HC1 := Lib.hid (HP1.out _ _ _ hr)
  have HB1 := Lib.hid hb
  clear hr hb
  go_wp2_with fail
  refine HC1.out.mono ?_
  rintro e w2 ⟨⟨s2, rfl, hs⟩, hb⟩
  have HB2 := Lib.hid (HB1.out.trans (hb.mono HB1.out.size))
  have HS2 := Lib.hid hs
  clear hb hs
  go_wp2_with fail
  refine (HL.out w2 HB2.out).mono ?_
  rintro e w3 ⟨v3, rfl, hr, hb⟩
  have HC3 := Lib.hid (HP2.out _ _ _ hr)
  have HB3 := Lib.hid (HB2.out.trans (hb.mono HB2.out.size))
  have HS3 := Lib.hid (HS2.out.later hb)
  clear hr hb HS2
  go_wp2_with fail
  refine HC3.out.mono ?_
  rintro e w4 ⟨⟨m4, rfl, hm⟩, hb⟩
  have HB4 := Lib.hid (HB3.out.trans (hb.mono HB3.out.size))
  have HS4 := Lib.hid (HS3.out.later hb)
  have HM4 := Lib.hid hm
  clear hm hb HS3
  go_wp2_with fail
  refine (HL.out w4 HB4.out).mono ?_
  rintro e w5 ⟨v5, rfl, hr, hb⟩
  have HC5 := Lib.hid (HP3.out _ _ _ hr)
  have HB5 := Lib.hid (HB4.out.trans (hb.mono HB4.out.size))
  have HS5 := Lib.hid (HS4.out.later hb)
  have HM5 := Lib.hid (HM4.out.later hb)
  clear hr hb HS4 HM4
  go_wp2_with fail
  refine HC5.out.mono ?_
  rintro e w6 ⟨rfl, hb⟩
  have HB6 := Lib.hid (HB5.out.trans (hb.mono HB5.out.size))
  have HS6 := Lib.hid (HS5.out.later hb)
  have HM6 := Lib.hid (HM5.out.later hb)
  clear hb HS5 HM5
  go_wp2_with fail
  refine (HV.out w6 HB6.out).mono ?_
  rintro e w7 ⟨rfl, rfl⟩
  go_wp2_with fail
  refine (HPR.out _).mono ?_
  rintro e w7 ⟨rfl, rfl⟩
  go_wp2_with fail
  refine (own_any _ HS6.out (by have := HLP.out; omega)).mono ?_
  rintro e w8 ⟨⟨o8, rfl, ho⟩, hb⟩
  have HB8 := Lib.hid (HB6.out.trans (hb.mono HB6.out.size))
  have HO8 := Lib.hid ho
  have HM8 := Lib.hid (HM6.out.later hb)
  clear ho hb HM6 HS6
  go_wp2_with fail
  refine (HQ1.out w8 HB8.out).mono ?_
  rintro e w9 ⟨⟨r9, rfl, hr⟩, hb⟩
  have HB9 := Lib.hid (HB8.out.trans (hb.mono HB8.out.size))
  have HO9 := Lib.hid (HO8.out.later hb)
  have HM9 := Lib.hid (HM8.out.later hb)
  have HR9 := Lib.hid hr
  clear hr hb HO8 HM8
  go_wp2_with fail
  refine (equal5_any _ HO9.out HR9.out (by have := HLP.out; omega)).mono ?_
  rintro e w10 ⟨rfl, hq⟩
  have HB10 := Lib.hid (below_drew HB9.out hq)
  have HM10 := Lib.hid (show RowF w3.heap.size m4 M w10 by obtain ⟨q', rfl⟩ := hq; exact own_same HM9.out fun _ _ _ => rfl)
  clear hq HO9 HR9 HM9
  go_wp2_with fail
  refine (HQ2.out w10 HB10.out).mono ?_
  rintro e w11 ⟨⟨r11, rfl, hr⟩, hb⟩
  have HB11 := Lib.hid (HB10.out.trans (hb.mono HB10.out.size))
  have HM11 := Lib.hid (HM10.out.later hb)
  have HR11 := Lib.hid hr
  clear hr hb HM10
  go_wp2_with fail
  refine (equalF_any _ HM11.out HR11.out HLS.out).mono ?_
  rintro e w12 ⟨rfl, hq⟩
  have HB12 := Lib.hid (below_drew HB11.out hq)
  clear hq HM11 HR11
  go_wp2_with fail
  refine (HQ3.out w12 HB12.out).mono ?_
  rintro e w13 ⟨rfl, hb⟩
  have HB13 := Lib.hid (HB12.out.trans (hb.mono HB12.out.size))
  clear hb
  cases T with
  | true =>
    go_wp2_with fail
    refine (awake_any _).mono ?_
    rintro e w14 ⟨rfl, hb⟩
    have HB14 := Lib.hid (HB13.out.trans (hb.mono HB13.out.size))
    clear hb
    go_wp2
    go_ret
    exact ⟨rfl, HB14.out⟩
  | false =>
    go_wp2_with fail
    refine (awake_any _).mono ?_
    rintro e w14 ⟨rfl, hb⟩
    have HB14 := Lib.hid (HB13.out.trans (hb.mono HB13.out.size))
    clear hb
    go_wp2
    go_ret
    exact ⟨rfl, HB14.out⟩
theorem lawSides_any (a : Option Addr) (n c : Nat) (xs : List Int) (p : Int) (w : World) (h : Ints w a n xs) (hc : n ≤ c) (hn : n ≤ 4611686018427387904) (hcm : c ≤ maxLen) :
    Calls Try.prog 4 #[.slice a n c, .int .i64 p] w fun e w' => e = .returned (.bool true) ∧ Below w.heap.size w w' := by
  cases hno : isPr p && isPoly xs with
  | false => exact lawSides_no a n c xs p w h hc hn hcm hno
  | true =>
    simp only [Bool.and_eq_true] at hno
    obtain ⟨q, rfl, hq⟩ := isPr_mem hno.1
    obtain ⟨q2, q13⟩ := pr_bounds hq
    exact lawSides_yes a n c xs q w h hc hn hcm hno.1 q2 q13 hno.2
end Go.Proofs.Ytjlaclbgfidiiaa
