/- The walks of pell.validD, gherkinref01.square and Valid, pell.terms, and the iterator that it makes: it yields the numbers of the continued fraction of the square root, in turn. Conditions as stated in each theorem (d is a D; the caller's rounds stop within 90). -/
import Derived.Test.YtbdadckedhcibaaRoot
import Derived.Sort.LoopGhostIn
namespace Go.Proofs.Ytbdadckedhcibaa
open Go.RowKit Go.Shelf
attribute [local go_sem] Oper.semAt_some

set_option maxHeartbeats 400000 in
theorem validD_any (d : Int) (w : World) :
    Calls Try.prog 41 #[.int .i64 d] w fun e w' => e = .returned (.bool (isD d)) ∧ w = w' := by
  by_cases h0 : d < 2
  · go_enter Try.func41, Try.ntmps41
    go_wp2
    go_ret
    exact ⟨ret_bool (by simp [isD]; omega), rfl⟩
  · by_cases h1 : 100 < d
    · go_enter Try.func41, Try.ntmps41
      go_wp2
      go_ret
      exact ⟨ret_bool (by simp [isD]; omega), rfl⟩
    · obtain ⟨b0, b1, b2⟩ := rootF_spec d (by omega) (by omega)
      have hb : 0 ≤ rootF d * rootF d := sq_nonneg _
      go_enter Try.func41, Try.ntmps41
      go_wp2_with (first | (go_at_call 63; refine (root_any _ _ (by omega) (by omega)).mono ?_; rintro e w' ⟨rfl, rfl⟩))
      go_ret
      refine ⟨ret_bool ?_, rfl⟩
      have e : (decide (2 ≤ d)) = true := by simp; omega
      have e' : (decide (d ≤ 100)) = true := by simp; omega
      unfold isD
      rw [e, e']
      by_cases h : rootF d * rootF d = d <;> simp [h]

set_option maxHeartbeats 400000 in
theorem terms_any (d : Int) (w : World) :
    Calls Try.prog 42 #[.int .i64 d] w fun e w' => e = .returned (.func (.func 64) #[] #[.pointer (some ⟨w.heap.size, 0, none⟩)]) ∧ w.alloc (.cells #[.int .i64 d] 3) = w' := by
  go_enter Try.func42, Try.ntmps42
  go_wp2
  go_ret
  exact ⟨rfl, rfl⟩

theorem cf_at {d : Int} (hd : isD d = true) {k : Nat} (hk : k < 90) : cfGood d k = true := by
  have hb := isD_bd hd
  have h := allBelow_at cfCheck_ok (k := d.toNat) (by omega)
  rw [Int.toNat_of_nonneg (by omega), hd] at h
  simp at h
  exact allBelow_at h.1.1 hk

theorem cf_facts {d : Int} (hd : isD d = true) {k : Nat} (hk : k < 90) :
    0 ≤ cfM d k ∧ cfM d k ≤ 20 ∧ 1 ≤ cfB d k ∧ cfB d k ≤ 100 ∧ 1 ≤ cfA d k ∧ cfA d k ≤ 20 ∧ cfM d (k + 1) * cfM d (k + 1) ≤ d := by
  have h := cf_at hd hk
  simp only [cfGood, Bool.and_eq_true, decide_eq_true_eq] at h
  omega

/-- What the iterator of terms asks of a round: the box of d lies as it lay. -/
def keepBox (b : Nat) (_ : Nat) (A B : World) : Prop := B.heap[b]? = A.heap[b]?
def still (_ : Nat) (A B : World) : Prop := A = B

set_option maxHeartbeats 1000000 in
theorem terms_iter (d : Int) (hd : isD d = true) (b : Nat) (w : World) (hb : b < w.heap.size) (hbox : Boxed w b 3 (.int .i64 d)) (N : Nat) (hN : N ≤ 89) :
    IterC Try.prog 64 #[.pointer (some ⟨b, 0, none⟩)] (fun k => #[.int .i64 (cfA d k)]) still (keepBox b) False N w := by
  intro l J Jx W hW hJ hJx hY hF h0
  have hd2 := isD_bd hd
  have hboxW : Boxed W b 3 (.int .i64 d) := boxed_below hbox hW hb
  clear hbox hJ hJx
  have hc := hboxW.cell
  obtain ⟨r0, -, -⟩ := rootF_spec d (by omega) (by omega)
  obtain ⟨-, r1⟩ := rootF_bd d
  refine (callsIn_wide (n := 5)).1 ?_
  refine callsIn_of_wp Try.func64 rfl trivial ?_ rfl
  simp only [Try.ntmps64, List.size_toArray, List.length_cons, List.length_nil, Nat.reduceAdd, Nat.reduceSub, Array.replicate_succ, Array.replicate_zero, List.push_toArray, List.append_toArray, List.nil_append, List.cons_append]
  gi_wp2_with (refine ⟨trivial, ?_⟩; gi_at_call 63; refine (callsIn_wide.2 (root_any _ _ (by omega) (by omega))).mono ?_; rintro e w' ⟨rfl, rfl⟩)
  have hi : J 0 W ∧ Boxed W b 3 (.int .i64 d) := ⟨h0, hboxW⟩
  clear h0 hboxW hc
  gi_loopg [4, 5, 6] N (fun g m bb a wr => ∃ k, k + g = N ∧ m = .int .i64 (cfM d k) ∧ bb = .int .i64 (cfB d k) ∧ a = .int .i64 (cfA d k) ∧ J k wr ∧ Boxed wr b 3 (.int .i64 d))
  case atStart => exact ⟨0, by omega, rfl, rfl, rfl, hi.1, hi.2⟩
  case round =>
    obtain ⟨k, hk, rfl, rfl, rfl, hj, hbx⟩ := hrel
    have hkN : k < N := by
      by_cases e : k = N
      · subst e; exact (hF _ hj).elim
      · omega
    obtain ⟨f1, f2, f3, f4, f5, f6, f7⟩ := cf_facts hd (k := k) (by omega)
    obtain ⟨g1, g2, g3, g4, g5, g6, g7⟩ := cf_facts hd (k := k + 1) (by omega)
    have hy := hY k wr hj hkN
    clear hY
    obtain ⟨fn, tmps, assign, body, hy, hR⟩ := hy
    have hm1 := cfM_succ d k
    have hm2 := cfB_succ d k
    have hm3 := cfA_succ d k
    have hp0 : 0 ≤ cfB d k * cfA d k := by omega
    have hp1 : cfB d k * cfA d k ≤ 40 := by omega
    have hs0 : 0 ≤ cfM d (k + 1) * cfM d (k + 1) := sq_nonneg _
    gi_wp2
    refine (roundIn_wide hR).mono ?_
    rintro e W3 (⟨rfl, hJ3, hk3⟩ | ⟨rfl, hJx3, _⟩)
    · have hbx3 : Boxed W3 b 3 (.int .i64 d) := hk3.trans hbx
      have hc3 := hbx3.cell
      have hm1' := hm1.symm
      have hm2' := hm2.symm
      have hm3' := hm3.symm
      clear hm1 hm2 hm3 hk3 hR hy
      gi_wp2
      gi_roundg (gk - 1)
      case rel => exact ⟨k + 1, by omega, rfl, rfl, rfl, hJ3, hbx3⟩
      case measure => omega
    · clear hm1 hm2 hm3 hR hy
      gi_wp2
      go_end0
      exact ⟨⟨_, rfl⟩, .inr ⟨k, hkN, hJx3⟩⟩
end Go.Proofs.Ytbdadckedhcibaa
