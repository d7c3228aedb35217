/- The walk of the law LiftFactors. Condition: the slices lie in memory. -/
import Derived.Test.YtjlaclbgfidiiaaFacWalk
import Derived.Test.YtjlaclbgfidiiaaLawSides
import Derived.Deep.RegionHeld3
import Derived.Deep.RegionLaw
namespace Go.Proofs.Ytjlaclbgfidiiaa
open Go.RowKit
attribute [local go_sem] Oper.semAt_some

theorem slopes_some {B : Nat} {v : Value} (p : Int) (f : List Int) (w : World) (h : Row B v f w) (hl : f.length ≤ 4611686018427387904) :
    Calls Try.prog 27 #[v, .int .i64 p] w fun e w' => (∃ (v' : Value) (E : Int), (E = 0 ∨ E = 2) ∧ e = .returned (.tuple #[v', .int .i64 E])) ∧ Below w.heap.size w w' := by
  cases hno : isPr p && isPoly f with
  | false =>
    refine (SlopesR_no p f w h hl hno).mono ?_
    rintro e w' ⟨rfl, q, rfl⟩
    exact ⟨⟨_, 2, .inr rfl, rfl⟩, drew_below w q⟩
  | true =>
    simp only [Bool.and_eq_true] at hno
    obtain ⟨q, rfl, hq⟩ := isPr_mem hno.1
    obtain ⟨q2, q13⟩ := pr_bounds hq
    refine (SlopesR_yes q f w h hno.1 q2 q13 hno.2).mono ?_
    rintro e w' ⟨⟨v', rfl, -⟩, hb⟩
    exact ⟨⟨v', 0, .inl rfl, rfl⟩, hb⟩

set_option maxHeartbeats 8000000 in
set_option maxRecDepth 100000 in
theorem lawFac_no1 (a b : Option Addr) (n m c d : Nat) (xs ys : List Int) (p x : Int) (w : World) (h : Ints w a n xs) (hc : n ≤ c) (hn : n ≤ 4611686018427387904) (hcm : c ≤ maxLen) (h' : Ints w b m ys) (hc' : m ≤ d) (hn' : m ≤ 4611686018427387904) (hcm' : d ≤ maxLen) (hno : (isPr p && isPoly xs) = false) :
    Calls Try.prog 9 #[.slice a n c, .slice b m d, .int .i64 p, .int .i64 x] w fun e w' => e = .returned (.bool true) ∧ Below w.heap.size w w' := by
  have hno2 : (isPr p && isPoly (xs.take 9)) = false := by rw [isPoly_take]; exact hno
  have HL1 := Lib.hid (fun w1 (hb : Below w.heap.size w w1) => list_row a n c xs w1 (h.below hb) hc hn hcm)
  have HL2 := Lib.hid (fun w1 (hb : Below w.heap.size w w1) => list_row b m d ys w1 (h'.below hb) hc' hn' hcm')
  have HP1 := Lib.hid (fun B v w1 (hr : Row B v (xs.take 9) w1) => PolygonR_no p _ w1 hr (take9_len _) hno2)
  have HP2 := Lib.hid (fun B v w1 (hr : Row B v (xs.take 9) w1) => SlopesR_no p _ w1 hr (take9_len _) hno2)
  have HP3 := Lib.hid (fun B v w1 (hr : Row B v (ys.take 9) w1) => slopes_some p (ys.take 9) w1 hr (take9_len _))
  clear h h' hno hno2
  go_enter Try.func9, Try.ntmps9
  go_wp2_with fail
  refine (HL1.out w (Below.refl _ _)).mono ?_
  rintro e w1 ⟨v1, rfl, hr, hb⟩
  have HC := Lib.hid (HP1.out _ _ _ hr)
  have HB1 := Lib.hid hb
  clear hr hb
  go_wp2_with fail
  refine HC.out.mono ?_
  rintro e w2 ⟨rfl, hq⟩
  have HB2 := Lib.hid (below_drew HB1.out hq)
  clear hq HC
  go_wp2_with fail
  refine (HL1.out w2 HB2.out).mono ?_
  rintro e w3 ⟨v3, rfl, hr, hb⟩
  have HC := Lib.hid (HP2.out _ _ _ hr)
  have HB3 := Lib.hid (HB2.out.trans (hb.mono HB2.out.size))
  clear hr hb
  go_wp2_with fail
  refine HC.out.mono ?_
  rintro e w4 ⟨rfl, hq⟩
  have HB4 := Lib.hid (below_drew HB3.out hq)
  clear hq HC
  go_wp2_with fail
  refine (HL2.out w4 HB4.out).mono ?_
  rintro e w5 ⟨v5, rfl, hr, hb⟩
  have HC := Lib.hid (HP3.out _ _ _ hr)
  have HB5 := Lib.hid (HB4.out.trans (hb.mono HB4.out.size))
  clear hr hb
  go_wp2_with fail
  refine HC.out.mono ?_
  rintro e w6 ⟨⟨v6, E, hE, rfl⟩, hb⟩
  have HB6 := Lib.hid (HB5.out.trans (hb.mono HB5.out.size))
  clear hb HC
  rcases hE with rfl | rfl
  all_goals
    go_wp2_with fail
    refine (awake_any _).mono ?_
    rintro e w8 ⟨rfl, hb⟩
    have HB8 := Lib.hid (HB6.out.trans (hb.mono HB6.out.size))
    clear hb
    go_wp2
    go_ret
    exact ⟨rfl, HB8.out⟩

set_option maxHeartbeats 8000000 in
set_option maxRecDepth 100000 in
theorem lawFac_no2 (q : Nat) (a b : Option Addr) (n m c d : Nat) (xs ys : List Int) (x : Int) (w : World) (h : Ints w a n xs) (hc : n ≤ c) (hn : n ≤ 4611686018427387904) (hcm : c ≤ maxLen) (h' : Ints w b m ys) (hc' : m ≤ d) (hn' : m ≤ 4611686018427387904) (hcm' : d ≤ maxLen) (hp : isPr (q : Int) = true) (q2 : 2 ≤ q) (q13 : q ≤ 13) (hf : isPoly xs = true) (hg : isPoly ys = false) :
    Calls Try.prog 9 #[.slice a n c, .slice b m d, .int .i64 (q : Int), .int .i64 x] w fun e w' => e = .returned (.bool true) ∧ Below w.heap.size w w' := by
  have hf9 : isPoly (xs.take 9) = true := by rw [isPoly_take]; exact hf
  have hno2 : (isPr (q : Int) && isPoly (ys.take 9)) = false := by rw [isPoly_take, hg, Bool.and_false]
  have HL1 := Lib.hid (fun w1 (hb : Below w.heap.size w w1) => list_row a n c xs w1 (h.below hb) hc hn hcm)
  have HL2 := Lib.hid (fun w1 (hb : Below w.heap.size w w1) => list_row b m d ys w1 (h'.below hb) hc' hn' hcm')
  have HP1 := Lib.hid (fun B v w1 (hr : Row B v (xs.take 9) w1) => PolygonR_yes q _ w1 hr hp q2 q13 hf9)
  have HP2 := Lib.hid (fun B v w1 (hr : Row B v (xs.take 9) w1) => SlopesR_yes q _ w1 hr hp q2 q13 hf9)
  have HP3 := Lib.hid (fun B v w1 (hr : Row B v (ys.take 9) w1) => SlopesR_no (q : Int) _ w1 hr (take9_len _) hno2)
  clear h h' hf hg hf9 hno2 hp
  go_enter Try.func9, Try.ntmps9
  go_wp2_with fail
  refine (HL1.out w (Below.refl _ _)).mono ?_
  rintro e w1 ⟨v1, rfl, hr, hb⟩
  have HC := Lib.hid (HP1.out _ _ _ hr)
  have HB1 := Lib.hid hb
  clear hr hb
  go_wp2_with fail
  refine HC.out.mono ?_
  rintro e w2 ⟨⟨s2, rfl, -⟩, hb⟩
  have HB2 := Lib.hid (HB1.out.trans (hb.mono HB1.out.size))
  clear hb HC
  go_wp2_with fail
  refine (HL1.out w2 HB2.out).mono ?_
  rintro e w3 ⟨v3, rfl, hr, hb⟩
  have HC := Lib.hid (HP2.out _ _ _ hr)
  have HB3 := Lib.hid (HB2.out.trans (hb.mono HB2.out.size))
  clear hr hb
  go_wp2_with fail
  refine HC.out.mono ?_
  rintro e w4 ⟨⟨s4, rfl, -⟩, hb⟩
  have HB4 := Lib.hid (HB3.out.trans (hb.mono HB3.out.size))
  clear hb HC
  go_wp2_with fail
  refine (HL2.out w4 HB4.out).mono ?_
  rintro e w5 ⟨v5, rfl, hr, hb⟩
  have HC := Lib.hid (HP3.out _ _ _ hr)
  have HB5 := Lib.hid (HB4.out.trans (hb.mono HB4.out.size))
  clear hr hb
  go_wp2_with fail
  refine HC.out.mono ?_
  rintro e w6 ⟨rfl, hq⟩
  have HB6 := Lib.hid (below_drew HB5.out hq)
  clear hq HC
  go_wp2_with fail
  refine (awake_any _).mono ?_
  rintro e w8 ⟨rfl, hb⟩
  have HB8 := Lib.hid (HB6.out.trans (hb.mono HB6.out.size))
  clear hb
  go_wp2
  go_ret
  exact ⟨rfl, HB8.out⟩

end Go.Proofs.Ytjlaclbgfidiiaa
