/- The walks of gherkinref01.Expand, Convergent, Unit and Right, for a D (and an index from 0 to 20). -/
import Derived.Test.YtbdadckedhcibaaPeriods
import Derived.Deep.LoopGhost
namespace Go.Proofs.Ytbdadckedhcibaa
open Go.RowKit

theorem cf_zero (d : Int) : cfA d 0 = rootF d := rfl

set_option maxRecDepth 100000 in
set_option maxHeartbeats 2000000 in
theorem refExpand_yes (d : Int) (hd : isD d = true) (w : World) :
    Calls Try.prog 19 #[.int .i64 d] w fun e w' => ∃ v, e = .returned v ∧ w'.ownsRow w.heap.size 3 1 v (pL d + 1) (cfRow d (pL d + 1)) ∧ Below w.heap.size w w' := by
  have hd2 := isD_bd hd
  obtain ⟨pa, pb, pc, pd⟩ := p_all hd
  obtain ⟨i0, hi, hz0, hz1, hz2⟩ := info_parts info3
  have HP := Lib.hid (And.intro pc pd)
  have HI := Lib.hid (And.intro hi (And.intro hz0 (And.intro hz1 hz2)))
  clear pc pd hi hz0 hz1 hz2
  obtain ⟨r0, -, -⟩ := rootF_spec d (by omega) (by omega)
  obtain ⟨-, -, -, -, r1, r2, -⟩ := cf_facts hd (k := 0) (by omega)
  rw [cf_zero] at r1 r2
  go_enter Try.func19, Try.ntmps19
  go_wp2_with (go_at_call 45; refine (refRoot_any _ _).mono ?_; rintro e w' ⟨rfl, rfl⟩)
  go_loopg [4, 5, 6, 7] (pL d) (fun g out m b a wr => ∃ k, k + g = pL d ∧ m = .int .i64 (cfM d k) ∧ b = .int .i64 (cfB d k) ∧ a = .int .i64 (cfA d k) ∧ wr.ownsRow w.heap.size 3 1 out (k + 1) (cfRow d (k + 1)) ∧ Below w.heap.size w wr)
  case atStart =>
    refine ⟨0, by omega, rfl, rfl, rfl, ?_, (Below.refl _ _).alloc (Nat.le_refl _) _⟩
    exact World.ownsRow_lit w #[.int .i64 (rootF d)] 1 (Nat.le_refl _) (by decide) (by simp)
  case round =>
    obtain ⟨k, hk, rfl, rfl, rfl, ho, hb⟩ := hrel
    obtain ⟨f1, f2, f3, f4, f5, f6, f7⟩ := cf_facts hd (k := k) (by omega)
    obtain ⟨g1, g2, g3, g4, g5, g6, g7⟩ := cf_facts hd (k := k + 1) (by omega)
    by_cases hkp : k = pL d
    · have b1 : (cfA d k != 2 * rootF d) = false := by rw [← cf_zero]; simp [hkp, HP.out.1]
      have HK := Lib.hid hkp
      clear hkp
      go_wp2
      go_ret
      exact ⟨_, rfl, by rw [← HK.out]; exact ho, hb⟩
    · have b1 : (cfA d k != 2 * rootF d) = true := by rw [← cf_zero]; simp [HP.out.2 k (by omega)]
      have hm1 := (cfM_succ d k).symm
      have hm2 := (cfB_succ d k).symm
      have hm3 := (cfA_succ d k).symm
      have hp0 : 0 ≤ cfB d k * cfA d k := by omega
      have hp1 : cfB d k * cfA d k ≤ 40 := by omega
      have hs0 : 0 ≤ cfM d (k + 1) * cfM d (k + 1) := sq_nonneg _
      obtain ⟨hi, hz0, hz1, hz2⟩ := HI.out
      have hsz := hb.size
      go_wp2_with (at_builtin; refine wpList_append_own _ rfl _ _ 22 rfl w.heap.size 3 i0 (.int .i64 0) 1 8 Try.underlying22 hi hz0 hz1 hz2 rfl (by decide) _ _ _ rfl (ho.alloc _) ⟨wr.heap.size, 0, none⟩ 1 1 [.int .i64 (cfA d (k + 1))] rfl rfl (cell_one_new _ _ _) (by simp [Value.oneCell']) (by unfold maxLen; omega) (by omega) (by simp; omega) ?_; intro v' w1 hown' hgrow _)
      have hb1 : Below w.heap.size w w1 := (hb.alloc hsz _).grown hgrow (by simp; omega) (fun j e => (ho.lt j e).1)
      rw [← cfRow_succ] at hown'
      go_roundg (gk - 1)
      case rel => exact ⟨k + 1, by omega, rfl, rfl, rfl, hown', hb1⟩
      case measure => omega

theorem refExpand_row (d : Int) (hd : isD d = true) (n : Nat) (hn : n = pL d + 1) (w : World) :
    Calls Try.prog 19 #[.int .i64 d] w fun e w' => ∃ g cap, e = .returned (.slice (some ⟨g, 0, none⟩) n cap) ∧ n ≤ cap ∧ cap ≤ maxLen ∧ LRow d n g w w' := by
  subst hn
  refine (refExpand_yes d hd w).mono ?_
  rintro e w' ⟨v, rfl, ho, hb⟩
  rcases ho.2 with ⟨_, h0⟩ | ⟨g, cap, cur, rfl, hbg, hg, hc, hm, _, _⟩
  · omega
  · refine ⟨g, cap, rfl, hc, hm, hbg, (Array.getElem?_eq_some_iff.1 hg).1, hb, fun j hj => ?_⟩
    rw [ho.cellAt j (by omega)]
    exact cfRow_at d hj

/-! The reference's convergents: the same numbers, the same place at which they end. -/
def rGood (d : Int) (k : Nat) : Bool :=
  decide (cfA d (1 + (k - 1) % pL d) = cfA d k) &&
  (!decide (k ≤ cvStop d) || (decide (cvQ d k ≤ cvP d k) && decide (cfA d k * cvQ d k ≤ 2000000000000000000) && decide (cvQ d (k + 1) ≤ 4000000000000000000)
    && (if k < cvStop d then decide (cvP d k ≤ 1000000000000000000 / cfA d k) && decide (cvP d (k + 1) ≤ 1000000000000000000) else decide (1000000000000000000 / cfA d k < cvP d k) || decide (1000000000000000000 < cvP d (k + 1)))))
def rCheck : Bool := allBelow 101 fun d => !isD d || (decide (1 ≤ cvStop d) && allBelow 22 (fun k => decide (k = 0) || rGood d k))
theorem rCheck_ok : rCheck = true := by decide +kernel
theorem r_all {d : Int} (hd : isD d = true) : 1 ≤ cvStop d ∧ ∀ k, 1 ≤ k → k < 22 → rGood d k = true := by
  have hb := isD_bd hd
  have h := allBelow_at rCheck_ok (k := d.toNat) (by omega)
  rw [Int.toNat_of_nonneg (by omega), hd] at h
  simp only [Bool.not_true, Bool.false_or, Bool.and_eq_true, decide_eq_true_eq] at h
  refine ⟨h.1, fun k h1 h2 => ?_⟩
  have := allBelow_at h.2 h2
  simpa [show k ≠ 0 by omega] using this
theorem r_idx {d : Int} (hd : isD d = true) {k : Nat} (h1 : 1 ≤ k) (h2 : k < 22) : cfA d (1 + (k - 1) % pL d) = cfA d k := by
  have h := (r_all hd).2 k h1 h2
  simp only [rGood, Bool.and_eq_true, decide_eq_true_eq] at h
  exact h.1
theorem r_go {d : Int} (hd : isD d = true) {k : Nat} (h1 : 1 ≤ k) (h2 : k < 22) (h3 : k ≤ cvStop d) :
    cvQ d k ≤ cvP d k ∧ cfA d k * cvQ d k ≤ 2000000000000000000 ∧ cvQ d (k + 1) ≤ 4000000000000000000 ∧
    ((k < cvStop d ∧ cvP d k ≤ 1000000000000000000 / cfA d k ∧ cvP d (k + 1) ≤ 1000000000000000000) ∨ (k = cvStop d ∧ (1000000000000000000 / cfA d k < cvP d k ∨ (cvP d k ≤ 1000000000000000000 / cfA d k ∧ 1000000000000000000 < cvP d (k + 1))))) := by
  have h := (r_all hd).2 k h1 h2
  simp only [rGood, Bool.and_eq_true, decide_eq_true_eq] at h
  have h4 := h.2
  rw [show decide (k ≤ cvStop d) = true by simp; omega] at h4
  simp only [Bool.not_true, Bool.false_or, Bool.and_eq_true, decide_eq_true_eq] at h4
  refine ⟨h4.1.1.1, h4.1.1.2, h4.1.2, ?_⟩
  have h5 := h4.2
  split at h5
  · simp only [Bool.and_eq_true, decide_eq_true_eq] at h5
    exact .inl ⟨by assumption, h5.1, h5.2⟩
  · simp only [Bool.or_eq_true, decide_eq_true_eq] at h5
    refine .inr ⟨by omega, ?_⟩
    by_cases h6 : 1000000000000000000 / cfA d k < cvP d k
    · exact .inl h6
    · exact .inr ⟨by omega, by omega⟩

theorem cv_one (d : Int) : cvP d 1 = cfA d 0 ∧ cvQ d 1 = 1 ∧ cvLP d 1 = 1 ∧ cvLQ d 1 = 0 := by
  refine ⟨?_, ?_, rfl, rfl⟩
  · rw [cvP_succ]; show cfA d 0 * 1 + 0 = _; omega
  · rw [cvQ_succ]; show cfA d 0 * 0 + 1 = _; omega

set_option maxRecDepth 100000 in
set_option maxHeartbeats 2000000 in
theorem refConvergent_yes (d : Int) (hd : isD d = true) (K : Nat) (hK : K ≤ 20) (w : World) :
    Calls Try.prog 20 #[.int .i64 d, .int .i64 (K : Int)] w fun e w' => e = .returned (.tuple #[.int .i64 (cvt d K).1, .int .i64 (cvt d K).2.1, .int .i64 (cvt d K).2.2]) ∧ Below w.heap.size w w' := by
  obtain ⟨X, hX⟩ : ∃ X, cvt d K = X := ⟨_, rfl⟩
  rw [hX]
  have HX := Lib.hid hX
  clear hX
  obtain ⟨pa, pb, -, -⟩ := p_all hd
  obtain ⟨ra, -⟩ := r_all hd
  obtain ⟨n, hn⟩ : ∃ n, n = pL d + 1 := ⟨_, rfl⟩
  have hn2 : 2 ≤ n := by omega
  have hn20 : n ≤ 20 := by omega
  have HN := Lib.hid hn
  have HD := Lib.hid hd
  clear hn hd
  obtain ⟨-, -, -, -, x5, x6, -⟩ := cf_facts HD.out (k := 0) (by omega)
  go_enter Try.func20, Try.ntmps20
  go_wp2_with fail
  refine (refExpand_row d HD.out n HN.out _).mono ?_
  rintro e w1 ⟨g, cap, rfl, hc1, hc2, hr1⟩
  unfold maxLen at hc2
  have c0 := hr1.2.2.2 0 (by omega)
  have R1 := Lib.hid hr1
  clear hr1
  go_wp2_with fail
  go_loopg [8, 9, 10, 11, 12] K (fun gk p q bf ud i wr => ∃ j, j + gk = K ∧ j + 1 ≤ cvStop d ∧ p = .int .i64 (cvP d (j + 1)) ∧ q = .int .i64 (cvQ d (j + 1)) ∧ bf = .int .i64 (cvLP d (j + 1)) ∧ ud = .int .i64 (cvLQ d (j + 1)) ∧ i = .int .i64 ((j : Int) + 1) ∧ wr = w1)
  case atStart =>
    obtain ⟨e1, e2, e3, e4⟩ := cv_one d
    exact ⟨0, by omega, by omega, by rw [e1], by rw [e2], by rw [e3], by rw [e4], rfl, rfl⟩
  case round =>
    obtain ⟨j, hj, hjs, rfl, rfl, rfl, rfl, rfl, rfl⟩ := hrel
    obtain ⟨v1, v2, v3, v4, v5, v6, v7, v8⟩ := cv_facts HD.out (k := j + 1) (by omega)
    by_cases hjK : j = K
    · have hX : X = (cvP d (j + 1), cvQ d (j + 1), 0) := by rw [← HX.out, cvt, if_pos (by omega), hjK]
      have HXX := Lib.hid hX
      have hgt : (K : Int) < (j : Int) + 1 := by omega
      clear hX
      have HJ := Lib.hid hjK
      clear hjK
      go_wp2
      go_ret3
      rw [HXX.out]
      exact ⟨rfl, R1.out.2.2.1⟩
    · have hle : (j : Int) + 1 ≤ (K : Int) := by omega
      obtain ⟨-, -, -, -, a1, a2, -⟩ := cf_facts HD.out (k := j + 1) (by omega)
      have hjm : j % (n - 1) < n - 1 := Nat.mod_lt _ (by omega)
      have hcell := R1.out.2.2.2 (1 + j % (n - 1)) (by omega)
      have hix := r_idx HD.out (k := j + 1) (by omega) (by omega)
      rw [show pL d = n - 1 by have := HN.out; omega, show j + 1 - 1 = j by omega] at hix
      rw [hix] at hcell
      obtain ⟨y1, y2, y3, y4⟩ := r_go HD.out (k := j + 1) (by omega) (by omega) hjs
      clear hix hjm
      have hmod : 0 ≤ (j : Int) % ((n : Int) - 1) := Int.emod_nonneg _ (by omega)
      have hmod2 : (j : Int) % ((n : Int) - 1) < (n : Int) - 1 := Int.emod_lt_of_pos _ (by omega)
      have e1 := (cvP_succ d (j + 1)).symm
      have e2 := (cvQ_succ d (j + 1)).symm
      have p0 : 0 ≤ cfA d (j + 1) * cvP d (j + 1) := Int.mul_nonneg (by omega) (by omega)
      have q0 : 0 ≤ cfA d (j + 1) * cvQ d (j + 1) := Int.mul_nonneg (by omega) (by omega)
      have hap : cvP d (j + 1) ≤ 1000000000000000000 / cfA d (j + 1) → cfA d (j + 1) * cvP d (j + 1) ≤ 1000000000000000000 := fun h => by
        have := Int.mul_le_mul_of_nonneg_left h (show 0 ≤ cfA d (j + 1) by omega)
        have h2 := Int.mul_ediv_self_le (x := 1000000000000000000) (k := cfA d (j + 1)) (by omega)
        omega
      rcases y4 with ⟨y5, y6, y7⟩ | ⟨y5, y6 | ⟨y6, y7⟩⟩
      · have p1 := hap y6
        clear hap
        go_wp2
        go_roundg (gk - 1)
        case rel => exact ⟨j + 1, by omega, by omega, rfl, rfl, rfl, rfl, by go_num, rfl⟩
        case measure => omega
      · have hX : X = (0, 0, 6) := by rw [← HX.out, cvt, if_neg (by omega)]
        have HXX := Lib.hid hX
        clear hap hX y5
        go_wp2
        go_ret3
        rw [HXX.out]
        exact ⟨rfl, R1.out.2.2.1⟩
      · have p1 := hap y6
        have hX : X = (0, 0, 6) := by rw [← HX.out, cvt, if_neg (by omega)]
        have HXX := Lib.hid hX
        clear hap hX y5
        go_wp2
        go_ret3
        rw [HXX.out]
        exact ⟨rfl, R1.out.2.2.1⟩
end Go.Proofs.Ytbdadckedhcibaa
