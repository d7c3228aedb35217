/- The walk of Times and of the law LiftTimes. Condition: the slices lie in memory. -/
import Derived.Test.YtjlaclbgfidiiaaTimes
import Derived.Test.YtjlaclbgfidiiaaLawRoots
namespace Go.Proofs.Ytjlaclbgfidiiaa
open Go.RowKit
attribute [local go_sem] Oper.semAt_some

def timesOK (f g : List Int) : Bool := isPoly f && isPoly g && isPoly (mulF f g)
theorem mulF_len {f g : List Int} : (mulF f g).length = f.length + g.length - 1 := by simp [mulF]

set_option maxHeartbeats 4000000 in
set_option maxRecDepth 100000 in
theorem Times_no (a1 a2 : Option Addr) (n m c1 c2 : Nat) (f g : List Int) (w : World) (h1 : Ints w a1 n f) (h2 : Ints w a2 m g) (hn : n ≤ 4611686018427387904) (hm : m ≤ 4611686018427387904) (hno : timesOK f g = false) :
    Calls Try.prog 45 #[.slice a1 n c1, .slice a2 m c2] w fun e w' => e = .returned (.tuple #[.slice none 0 0, .int .i64 2]) ∧ Below w.heap.size w w' := by
  have hV1 := valid_any a1 n c1 f w h1 hn
  have hV2 := fun q => valid_any a2 m c2 g (w.drewN q) (h2.below (drew_below w q)) hm
  unfold timesOK at hno
  cases hf : isPoly f with
  | false =>
    rw [hf] at hV1
    have HV1 := Lib.hid hV1
    clear hV1 hV2 hno h1 h2 hf
    go_enter Try.func45, Try.ntmps45
    go_wp2_with fail
    refine HV1.out.mono ?_
    rintro e w1 ⟨rfl, q, rfl⟩
    go_wp2
    go_ret2
    exact ⟨rfl, drew_below w q⟩
  | true =>
    rw [hf] at hV1
    rw [hf, Bool.true_and] at hno
    have HV1 := Lib.hid hV1
    cases hg : isPoly g with
    | false =>
      rw [hg] at hV2
      have HV2 := Lib.hid hV2
      clear hV1 hV2 hno h1 h2 hf hg
      go_enter Try.func45, Try.ntmps45
      go_wp2_with fail
      refine HV1.out.mono ?_
      rintro e w1 ⟨rfl, q, rfl⟩
      go_wp2_with fail
      refine (HV2.out q).mono ?_
      rintro e w1 ⟨rfl, q2, rfl⟩
      go_wp2
      go_ret2
      exact ⟨rfl, drew_below w _⟩
    | true =>
      rw [hg] at hV2
      rw [hg, Bool.true_and] at hno
      have HV2 := Lib.hid hV2
      obtain ⟨f1, f2, f3⟩ := poly_bounds h1.1 hf
      obtain ⟨g1, g2, g3⟩ := poly_bounds h2.1 hg
      have hT := fun w1 (hb : Below w.heap.size w w1) => times_any a1 a2 n m c1 c2 f g w1 (h1.below hb) (h2.below hb) (by omega) (by omega) (by omega) (by omega) f3 g3
      have hV3 := fun (v : Value) w1 (hr : Row w.heap.size v (mulF f g) w1) => show Calls Try.prog 54 #[v] w1 fun e w' => e = .returned (.bool (isPoly (mulF f g))) ∧ ∃ q, w' = w1.drewN q from by
        obtain ⟨a, N, c, rfl, hi, hN⟩ := hr.ints
        exact valid_any a N c _ w1 hi (by rw [hN, mulF_len, h1.1, h2.1]; omega)
      rw [hno] at hV3
      have HT := Lib.hid hT
      have HV3 := Lib.hid hV3
      clear hV1 hV2 hV3 hT hno h1 h2 hf hg f3 g3
      go_enter Try.func45, Try.ntmps45
      go_wp2_with fail
      refine HV1.out.mono ?_
      rintro e w1 ⟨rfl, q, rfl⟩
      go_wp2_with fail
      refine (HV2.out q).mono ?_
      rintro e w1 ⟨rfl, q2, hw⟩
      have HB1 := Lib.hid (show Below w.heap.size w w1 by rw [hw]; exact below_drewN (drew_below w q) q2)
      clear hw
      go_wp2_with fail
      refine (HT.out _ HB1.out).mono ?_
      rintro e w2 ⟨⟨v, rfl, hr⟩, hb⟩
      have HB2 := Lib.hid (HB1.out.trans (hb.mono HB1.out.size))
      have HV4 := Lib.hid (HV3.out v w2 (hr.mono HB1.out.size))
      clear hr hb HV3
      go_wp2_with fail
      refine HV4.out.mono ?_
      rintro e w3 ⟨rfl, q3, rfl⟩
      go_wp2
      go_ret2
      exact ⟨rfl, below_drewN HB2.out q3⟩

set_option maxHeartbeats 4000000 in
set_option maxRecDepth 100000 in
theorem Times_yes (a1 a2 : Option Addr) (n m c1 c2 : Nat) (f g : List Int) (w : World) (h1 : Ints w a1 n f) (h2 : Ints w a2 m g) (hok : timesOK f g = true) :
    Calls Try.prog 45 #[.slice a1 n c1, .slice a2 m c2] w fun e w' => (∃ v, e = .returned (.tuple #[v, .int .i64 0]) ∧ Row w.heap.size v (mulF f g) w') ∧ Below w.heap.size w w' := by
  unfold timesOK at hok
  simp only [Bool.and_eq_true] at hok
  obtain ⟨⟨hf, hg⟩, hp⟩ := hok
  obtain ⟨f1, f2, f3⟩ := poly_bounds h1.1 hf
  obtain ⟨g1, g2, g3⟩ := poly_bounds h2.1 hg
  have hV1 := valid_any a1 n c1 f w h1 (by omega)
  have hV2 := fun q => valid_any a2 m c2 g (w.drewN q) (h2.below (drew_below w q)) (by omega)
  rw [hf] at hV1
  rw [hg] at hV2
  have HV1 := Lib.hid hV1
  have HV2 := Lib.hid hV2
  have hT := fun w1 (hb : Below w.heap.size w w1) => times_any a1 a2 n m c1 c2 f g w1 (h1.below hb) (h2.below hb) (by omega) (by omega) (by omega) (by omega) f3 g3
  have hV3 := fun (v : Value) w1 (hr : Row w.heap.size v (mulF f g) w1) => show Calls Try.prog 54 #[v] w1 fun e w' => e = .returned (.bool (isPoly (mulF f g))) ∧ ∃ q, w' = w1.drewN q from by
    obtain ⟨a, N, c, rfl, hi, hN⟩ := hr.ints
    exact valid_any a N c _ w1 hi (by rw [hN, mulF_len, h1.1, h2.1]; omega)
  rw [hp] at hV3
  have HT := Lib.hid hT
  have HV3 := Lib.hid hV3
  clear hV1 hV2 hV3 hT hp h1 h2 hf hg f3 g3
  go_enter Try.func45, Try.ntmps45
  go_wp2_with fail
  refine HV1.out.mono ?_
  rintro e w1 ⟨rfl, q, rfl⟩
  go_wp2_with fail
  refine (HV2.out q).mono ?_
  rintro e w1 ⟨rfl, q2, hw⟩
  have HB1 := Lib.hid (show Below w.heap.size w w1 by rw [hw]; exact below_drewN (drew_below w q) q2)
  clear hw
  go_wp2_with fail
  refine (HT.out _ HB1.out).mono ?_
  rintro e w2 ⟨⟨v, rfl, hr⟩, hb⟩
  have HB2 := Lib.hid (HB1.out.trans (hb.mono HB1.out.size))
  have HR2 := Lib.hid (hr.mono HB1.out.size)
  have HV4 := Lib.hid (HV3.out v w2 (hr.mono HB1.out.size))
  clear hr hb HV3
  go_wp2_with fail
  refine HV4.out.mono ?_
  rintro e w3 ⟨rfl, q3, rfl⟩
  go_wp2
  go_ret2
  exact ⟨⟨v, rfl, HR2.out.drew q3⟩, below_drewN HB2.out q3⟩
theorem TimesR_no {B1 B2 : Nat} {v1 v2 : Value} (f g : List Int) (w : World) (h1 : Row B1 v1 f w) (h2 : Row B2 v2 g w) (l1 : f.length ≤ 4611686018427387904) (l2 : g.length ≤ 4611686018427387904) (hno : timesOK f g = false) :
    Calls Try.prog 45 #[v1, v2] w fun e w' => e = .returned (.tuple #[.slice none 0 0, .int .i64 2]) ∧ Below w.heap.size w w' := by
  obtain ⟨a1, n1, c1, rfl, i1, e1⟩ := h1.ints
  obtain ⟨a2, n2, c2, rfl, i2, e2⟩ := h2.ints
  exact Times_no a1 a2 n1 n2 c1 c2 f g w i1 i2 (by omega) (by omega) hno
theorem TimesR_yes {B1 B2 : Nat} {v1 v2 : Value} (f g : List Int) (w : World) (h1 : Row B1 v1 f w) (h2 : Row B2 v2 g w) (hok : timesOK f g = true) :
    Calls Try.prog 45 #[v1, v2] w fun e w' => (∃ v, e = .returned (.tuple #[v, .int .i64 0]) ∧ Row w.heap.size v (mulF f g) w') ∧ Below w.heap.size w w' := by
  obtain ⟨a1, n1, c1, rfl, i1, e1⟩ := h1.ints
  obtain ⟨a2, n2, c2, rfl, i2, e2⟩ := h2.ints
  exact Times_yes a1 a2 n1 n2 c1 c2 f g w i1 i2 hok

set_option maxHeartbeats 8000000 in
set_option maxRecDepth 100000 in
theorem lawTimes_any (a b : Option Addr) (n m c d : Nat) (xs ys : List Int) (w : World) (h : Ints w a n xs) (hc : n ≤ c) (hn : n ≤ 4611686018427387904) (hcm : c ≤ maxLen) (h' : Ints w b m ys) (hc' : m ≤ d) (hn' : m ≤ 4611686018427387904) (hcm' : d ≤ maxLen) :
    Calls Try.prog 7 #[.slice a n c, .slice b m d] w fun e w' => e = .returned (.bool true) ∧ Below w.heap.size w w' := by
  have HL1 := Lib.hid (fun w1 (hb : Below w.heap.size w w1) => list_row a n c xs w1 (h.below hb) hc hn hcm)
  have HL2 := Lib.hid (fun w1 (hb : Below w.heap.size w w1) => list_row b m d ys w1 (h'.below hb) hc' hn' hcm')
  have HTN := Lib.hid (fun B1 B2 v1 v2 w1 (h1 : Row B1 v1 (xs.take 9) w1) (h2 : Row B2 v2 (ys.take 9) w1) hno => TimesR_no (xs.take 9) (ys.take 9) w1 h1 h2 (take9_len _) (take9_len _) hno)
  have HTY := Lib.hid (fun B1 B2 v1 v2 w1 (h1 : Row B1 v1 (xs.take 9) w1) (h2 : Row B2 v2 (ys.take 9) w1) hok => TimesR_yes (xs.take 9) (ys.take 9) w1 h1 h2 hok)
  have hP1 := fun w1 (hb : Below w.heap.size w w1) => polyR_any a n c xs w1 (h.below hb) hn
  have hP2 := fun w1 (hb : Below w.heap.size w w1) => polyR_any b m d ys w1 (h'.below hb) hn'
  have hTR := fun (hf : isPoly xs = true) (hg : isPoly ys = true) w1 (hb : Below w.heap.size w w1) => timesR_any a b n m c d xs ys w1 (h.below hb) (h'.below hb) (by have := poly_bounds h.1 hf; omega) (by have := poly_bounds h.1 hf; omega) (by have := poly_bounds h'.1 hg; omega) (by have := poly_bounds h'.1 hg; omega) (poly_bounds h.1 hf).2.2 (poly_bounds h'.1 hg).2.2
  have hPR := fun (hf : isPoly xs = true) (hg : isPoly ys = true) (v : Value) B w1 (hr : Row B v (mulF xs ys) w1) => show Calls Try.prog 20 #[v] w1 fun e w' => e = .returned (.bool (isPoly (mulF xs ys))) ∧ w1 = w' from by
    obtain ⟨a, N, c, rfl, hi, hN⟩ := hr.ints
    exact polyR_any a N c _ w1 hi (by rw [hN, mulF_len]; have := poly_bounds h.1 hf; have := poly_bounds h'.1 hg; have := h.1; have := h'.1; omega)
  have hlen : isPoly xs = true → isPoly ys = true → (mulF xs ys).length ≤ 1000000 := fun hf hg => by
    rw [mulF_len]; have := poly_bounds h.1 hf; have := poly_bounds h'.1 hg; have := h.1; have := h'.1; omega
  have hT : timesOK (xs.take 9) (ys.take 9) = (isPoly xs && isPoly ys && isPoly (mulF (xs.take 9) (ys.take 9))) := by unfold timesOK; rw [isPoly_take, isPoly_take]
  have hS1 : isPoly xs = true → xs.take 9 = xs := isPoly_short
  have hS2 : isPoly ys = true → ys.take 9 = ys := isPoly_short
  clear h h'
  cases hf : isPoly xs with
  | false =>
    rw [hf] at hP1 hT
    have HT := Lib.hid (show timesOK (xs.take 9) (ys.take 9) = false from hT)
    have HP1 := Lib.hid hP1
    clear hP1 hP2 hTR hPR hT hS1 hS2 hf hlen
    go_enter Try.func7, Try.ntmps7
    go_wp2_with fail
    refine (HL1.out w (Below.refl _ _)).mono ?_
    rintro e w1 ⟨v1, rfl, hr, hb⟩
    have HR1 := Lib.hid hr
    have HB1 := Lib.hid hb
    clear hr hb
    go_wp2_with fail
    refine (HL2.out w1 HB1.out).mono ?_
    rintro e w2 ⟨v2, rfl, hr, hb⟩
    have HR2 := Lib.hid hr
    have HR12 := Lib.hid (HR1.out.later hb)
    have HB2 := Lib.hid (HB1.out.trans (hb.mono HB1.out.size))
    clear hr hb HR1
    go_wp2_with fail
    refine (HTN.out _ _ _ _ _ HR12.out HR2.out HT.out).mono ?_
    rintro e w3 ⟨rfl, hb⟩
    have HB3 := Lib.hid (HB2.out.trans (hb.mono HB2.out.size))
    clear hb
    go_wp2_with fail
    refine (HP1.out _ HB3.out).mono ?_
    rintro e w4 ⟨rfl, rfl⟩
    go_wp2_with fail
    refine (awake_any _).mono ?_
    rintro e w5 ⟨rfl, hb⟩
    have HB5 := Lib.hid (HB3.out.trans (hb.mono HB3.out.size))
    clear hb
    go_wp2
    go_ret
    exact ⟨rfl, HB5.out⟩
  | true =>
    rw [hf] at hP1 hT
    rw [Bool.true_and] at hT
    have HP1 := Lib.hid hP1
    cases hg : isPoly ys with
    | false =>
      rw [hg] at hP2 hT
      have HT := Lib.hid (show timesOK (xs.take 9) (ys.take 9) = false from hT)
      have HP2 := Lib.hid hP2
      clear hP1 hP2 hTR hPR hT hS1 hS2 hf hg hlen
      go_enter Try.func7, Try.ntmps7
      go_wp2_with fail
      refine (HL1.out w (Below.refl _ _)).mono ?_
      rintro e w1 ⟨v1, rfl, hr, hb⟩
      have HR1 := Lib.hid hr
      have HB1 := Lib.hid hb
      clear hr hb
      go_wp2_with fail
      refine (HL2.out w1 HB1.out).mono ?_
      rintro e w2 ⟨v2, rfl, hr, hb⟩
      have HR2 := Lib.hid hr
      have HR12 := Lib.hid (HR1.out.later hb)
      have HB2 := Lib.hid (HB1.out.trans (hb.mono HB1.out.size))
      clear hr hb HR1
      go_wp2_with fail
      refine (HTN.out _ _ _ _ _ HR12.out HR2.out HT.out).mono ?_
      rintro e w3 ⟨rfl, hb⟩
      have HB3 := Lib.hid (HB2.out.trans (hb.mono HB2.out.size))
      clear hb
      go_wp2_with fail
      refine (HP1.out _ HB3.out).mono ?_
      rintro e w4 ⟨rfl, rfl⟩
      go_wp2_with fail
      refine (HP2.out _ HB3.out).mono ?_
      rintro e w4 ⟨rfl, rfl⟩
      go_wp2_with fail
      refine (awake_any _).mono ?_
      rintro e w5 ⟨rfl, hb⟩
      have HB5 := Lib.hid (HB3.out.trans (hb.mono HB3.out.size))
      clear hb
      go_wp2
      go_ret
      exact ⟨rfl, HB5.out⟩
    | true =>
      rw [hg] at hP2 hT
      rw [Bool.true_and, hS1 hf, hS2 hg] at hT
      rw [hS1 hf] at HTN HTY HL1
      rw [hS2 hg] at HTN HTY HL2
      have HP2 := Lib.hid hP2
      have HTR := Lib.hid (hTR hf hg)
      have hPR2 := hPR hf hg
      have HLEN := Lib.hid (hlen hf hg)
      cases hp : isPoly (mulF xs ys) with
      | false =>
        rw [hp] at hPR2 hT
        have HPR := Lib.hid hPR2
        have HT := Lib.hid hT
        clear hP1 hP2 hTR hPR hPR2 hT hS1 hS2 hf hg hp hlen
        go_enter Try.func7, Try.ntmps7
        go_wp2_with fail
        refine (HL1.out w (Below.refl _ _)).mono ?_
        rintro e w1 ⟨v1, rfl, hr, hb⟩
        have HR1 := Lib.hid hr
        have HB1 := Lib.hid hb
        clear hr hb
        go_wp2_with fail
        refine (HL2.out w1 HB1.out).mono ?_
        rintro e w2 ⟨v2, rfl, hr, hb⟩
        have HR2 := Lib.hid hr
        have HR12 := Lib.hid (HR1.out.later hb)
        have HB2 := Lib.hid (HB1.out.trans (hb.mono HB1.out.size))
        clear hr hb HR1
        go_wp2_with fail
        refine (HTN.out _ _ _ _ _ HR12.out HR2.out HT.out).mono ?_
        rintro e w3 ⟨rfl, hb⟩
        have HB3 := Lib.hid (HB2.out.trans (hb.mono HB2.out.size))
        clear hb
        go_wp2_with fail
        refine (HP1.out _ HB3.out).mono ?_
        rintro e w4 ⟨rfl, rfl⟩
        go_wp2_with fail
        refine (HP2.out _ HB3.out).mono ?_
        rintro e w4 ⟨rfl, rfl⟩
        go_wp2_with fail
        refine (HTR.out _ HB3.out).mono ?_
        rintro e w4 ⟨⟨v4, rfl, hr⟩, hb⟩
        have HB4 := Lib.hid (HB3.out.trans (hb.mono HB3.out.size))
        have HPR4 := Lib.hid (HPR.out v4 _ w4 hr)
        clear hr hb
        go_wp2_with fail
        refine HPR4.out.mono ?_
        rintro e w5 ⟨rfl, rfl⟩
        go_wp2_with fail
        refine (awake_any _).mono ?_
        rintro e w5 ⟨rfl, hb⟩
        have HB5 := Lib.hid (HB4.out.trans (hb.mono HB4.out.size))
        clear hb
        go_wp2
        go_ret
        exact ⟨rfl, HB5.out⟩
      | true =>
        rw [hp] at hPR2 hT
        have HPR := Lib.hid hPR2
        have HT := Lib.hid hT
        clear hP1 hP2 hTR hPR hPR2 hT hS1 hS2 hf hg hp hlen
        go_enter Try.func7, Try.ntmps7
        go_wp2_with fail
        refine (HL1.out w (Below.refl _ _)).mono ?_
        rintro e w1 ⟨v1, rfl, hr, hb⟩
        have HR1 := Lib.hid hr
        have HB1 := Lib.hid hb
        clear hr hb
        go_wp2_with fail
        refine (HL2.out w1 HB1.out).mono ?_
        rintro e w2 ⟨v2, rfl, hr, hb⟩
        have HR2 := Lib.hid hr
        have HR12 := Lib.hid (HR1.out.later hb)
        have HB2 := Lib.hid (HB1.out.trans (hb.mono HB1.out.size))
        clear hr hb HR1
        go_wp2_with fail
        refine (HTY.out _ _ _ _ _ HR12.out HR2.out HT.out).mono ?_
        rintro e w3 ⟨⟨l, rfl, hl⟩, hb⟩
        have HB3 := Lib.hid (HB2.out.trans (hb.mono HB2.out.size))
        have HL3 := Lib.hid hl
        clear hb hl
        go_wp2_with fail
        refine (HP1.out _ HB3.out).mono ?_
        rintro e w4 ⟨rfl, rfl⟩
        go_wp2_with fail
        refine (HP2.out _ HB3.out).mono ?_
        rintro e w4 ⟨rfl, rfl⟩
        go_wp2_with fail
        refine (HTR.out _ HB3.out).mono ?_
        rintro e w4 ⟨⟨v4, rfl, hr⟩, hb⟩
        have HB4 := Lib.hid (HB3.out.trans (hb.mono HB3.out.size))
        have HL4 := Lib.hid (HL3.out.later hb)
        have HPR4 := Lib.hid (HPR.out v4 _ w4 hr)
        clear hr hb HL3
        go_wp2_with fail
        refine HPR4.out.mono ?_
        rintro e w5 ⟨rfl, rfl⟩
        go_wp2_with fail
        refine (HTR.out _ HB4.out).mono ?_
        rintro e w6 ⟨⟨v6, rfl, hr⟩, hb⟩
        have HB6 := Lib.hid (HB4.out.trans (hb.mono HB4.out.size))
        have HL6 := Lib.hid (HL4.out.later hb)
        have HR6 := Lib.hid hr
        clear hr hb HL4
        go_wp2_with fail
        refine (equal_rows _ HL6.out HR6.out HLEN.out HLEN.out).mono ?_
        rintro e w7 ⟨rfl, hq⟩
        have HB7 := Lib.hid (below_drew HB6.out hq)
        have ht : (mulF xs ys == mulF xs ys) = true := by simp
        rw [ht]
        clear ht hq
        go_wp2_with fail
        refine (awake_any _).mono ?_
        rintro e w8 ⟨rfl, hb⟩
        have HB8 := Lib.hid (HB7.out.trans (hb.mono HB7.out.size))
        clear hb
        go_wp2
        go_ret
        exact ⟨rfl, HB8.out⟩
end Go.Proofs.Ytjlaclbgfidiiaa
