/- The walk of the law LiftPure. Condition: the slices lie in memory. -/
import Derived.Test.YtjlaclbgfidiiaaPureMath
namespace Go.Proofs.Ytjlaclbgfidiiaa
open Go.RowKit
attribute [local go_sem] Oper.semAt_some

theorem PureR_no {B : Nat} {v : Value} (p : Int) (f : List Int) (w : World) (h : Row B v f w) (hl : f.length ≤ 4611686018427387904) (hno : (isPr p && isPoly f) = false) :
    Calls Try.prog 28 #[v, .int .i64 p] w fun e w' => e = .returned (.tuple #[.bool false, .int .i64 2]) ∧ ∃ q, w' = w.drewN q := by
  obtain ⟨a, n, c, rfl, hi, hn⟩ := h.ints
  exact Pure_no p a n c f w hi (by omega) hno
theorem PureR_yes {B : Nat} {v : Value} (p : Nat) (f : List Int) (w : World) (h : Row B v f w) (hp : isPr (p : Int) = true) (p2 : 2 ≤ p) (p13 : p ≤ 13) (hf : isPoly f = true) :
    Calls Try.prog 28 #[v, .int .i64 (p : Int)] w fun e w' => e = .returned (.tuple #[.bool (pureF f p), .int .i64 0]) ∧ Below w.heap.size w w' := by
  obtain ⟨a, n, c, rfl, hi, hn⟩ := h.ints
  exact Pure_yes p a n c f w hi hp p2 p13 hf

set_option maxHeartbeats 8000000 in
set_option maxRecDepth 100000 in
theorem lawPure_any (a b : Option Addr) (n m c d : Nat) (xs ys : List Int) (p : Int) (w : World) (h : Ints w a n xs) (hc : n ≤ c) (hn : n ≤ 4611686018427387904) (hcm : c ≤ maxLen) (h' : Ints w b m ys) (hc' : m ≤ d) (hn' : m ≤ 4611686018427387904) (hcm' : d ≤ maxLen) :
    Calls Try.prog 10 #[.slice a n c, .slice b m d, .int .i64 p] w fun e w' => e = .returned (.bool true) ∧ Below w.heap.size w w' := by
  have HL1 := Lib.hid (fun w1 (hb : Below w.heap.size w w1) => list_row a n c xs w1 (h.below hb) hc hn hcm)
  have HL2 := Lib.hid (fun w1 (hb : Below w.heap.size w w1) => list_row b m d ys w1 (h'.below hb) hc' hn' hcm')
  cases hT : timesOK (xs.take 9) (ys.take 9) with
  | false =>
    have HTN := Lib.hid (fun B1 B2 v1 v2 w1 (h1 : Row B1 v1 (xs.take 9) w1) (h2 : Row B2 v2 (ys.take 9) w1) => TimesR_no (xs.take 9) (ys.take 9) w1 h1 h2 (take9_len _) (take9_len _) hT)
    clear h h' hT
    go_enter Try.func10, Try.ntmps10
    go_wp2_with fail
    refine (HL1.out w (Below.refl _ _)).mono ?_
    rintro e w1 ⟨v1, rfl, hr, hb⟩
    have HR1 := Lib.hid hr
    have HB1 := Lib.hid hb
    clear hr hb
    go_wp2_with fail
    refine (HL2.out w1 HB1.out).mono ?_
    rintro e w2 ⟨v2, rfl, hr, hb⟩
    have HR2 := Lib.hid hr
    have HR12 := Lib.hid (HR1.out.later hb)
    have HB2 := Lib.hid (HB1.out.trans (hb.mono HB1.out.size))
    clear hr hb HR1
    go_wp2_with fail
    refine (HTN.out _ _ _ _ _ HR12.out HR2.out).mono ?_
    rintro e w3 ⟨rfl, hb⟩
    have HB3 := Lib.hid (HB2.out.trans (hb.mono HB2.out.size))
    clear hb
    go_wp2_with fail
    refine (awake_any _).mono ?_
    rintro e w5 ⟨rfl, hb⟩
    have HB5 := Lib.hid (HB3.out.trans (hb.mono HB3.out.size))
    clear hb
    go_wp2
    go_ret
    exact ⟨rfl, HB5.out⟩
  | true =>
    have HTY := Lib.hid (fun B1 B2 v1 v2 w1 (h1 : Row B1 v1 (xs.take 9) w1) (h2 : Row B2 v2 (ys.take 9) w1) => TimesR_yes (xs.take 9) (ys.take 9) w1 h1 h2 hT)
    have hT2 := hT
    unfold timesOK at hT2
    simp only [Bool.and_eq_true] at hT2
    obtain ⟨⟨hf, hg⟩, hh⟩ := hT2
    have hlen : (mulF (xs.take 9) (ys.take 9)).length ≤ 4611686018427387904 := by rw [mulF_len, List.length_take, List.length_take]; omega
    have hPU : ∀ B v w1, Row B v (mulF (xs.take 9) (ys.take 9)) w1 → Calls Try.prog 28 #[v, .int .i64 p] w1 fun e w' => (∃ E : Int, (E = 0 ∨ E = 2) ∧ e = .returned (.tuple #[.bool false, .int .i64 E])) ∧ Below w1.heap.size w1 w' := by
      intro B v w1 hr
      cases hp : isPr p with
      | false =>
        refine (PureR_no p _ w1 hr hlen (by rw [hp]; rfl)).mono ?_
        rintro e w' ⟨rfl, q, rfl⟩
        exact ⟨⟨2, .inr rfl, rfl⟩, drew_below w1 q⟩
      | true =>
        obtain ⟨q, rfl, hq⟩ := isPr_mem hp
        obtain ⟨q2, q13⟩ := pr_bounds hq
        refine (PureR_yes q _ w1 hr hp q2 q13 hh).mono ?_
        rintro e w' ⟨rfl, hb⟩
        exact ⟨⟨0, .inl rfl, by rw [pure_times hq hf hg hh]⟩, hb⟩
    have HPU := Lib.hid hPU
    clear h h' hT hf hg hh hlen hPU
    go_enter Try.func10, Try.ntmps10
    go_wp2_with fail
    refine (HL1.out w (Below.refl _ _)).mono ?_
    rintro e w1 ⟨v1, rfl, hr, hb⟩
    have HR1 := Lib.hid hr
    have HB1 := Lib.hid hb
    clear hr hb
    go_wp2_with fail
    refine (HL2.out w1 HB1.out).mono ?_
    rintro e w2 ⟨v2, rfl, hr, hb⟩
    have HR2 := Lib.hid hr
    have HR12 := Lib.hid (HR1.out.later hb)
    have HB2 := Lib.hid (HB1.out.trans (hb.mono HB1.out.size))
    clear hr hb HR1
    go_wp2_with fail
    refine (HTY.out _ _ _ _ _ HR12.out HR2.out).mono ?_
    rintro e w3 ⟨⟨l, rfl, hl⟩, hb⟩
    have HB3 := Lib.hid (HB2.out.trans (hb.mono HB2.out.size))
    have HL3 := Lib.hid (HPU.out _ _ _ hl)
    clear hb hl
    go_wp2_with fail
    refine HL3.out.mono ?_
    rintro e w4 ⟨⟨E, hE, rfl⟩, hb⟩
    have HB4 := Lib.hid (HB3.out.trans (hb.mono HB3.out.size))
    clear hb
    rcases hE with rfl | rfl
    all_goals
      go_wp2_with fail
      refine (awake_any _).mono ?_
      rintro e w5 ⟨rfl, hb⟩
      have HB5 := Lib.hid (HB4.out.trans (hb.mono HB4.out.size))
      clear hb
      go_wp2
      go_ret
      exact ⟨rfl, HB5.out⟩
end Go.Proofs.Ytjlaclbgfidiiaa
