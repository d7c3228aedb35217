/- The walk of the reference's Valid. No condition. -/
import Derived.Test.YtbdabpmpfciibaaPlConv
namespace Go.Proofs.Ytbdabpmpfciibaa.pl
open Go.RowKit Go.Shelf
theorem turnBelow_keeps {n : Nat} (A B : World) (h : turnBelow (n + 2) A B) : B.heap[n]? = A.heap[n]? ∧ B.heap[n + 1]? = A.heap[n + 1]? :=
  ⟨h.block n (by omega), h.block (n + 1) (by omega)⟩
theorem keepAbove_rec {n : Nat} (A B : World) (r r1 r2 : Loop) (_ : A.heap[n + 1]? = some (.loop r)) (h : keepAbove (n + 2) (A.putObj (n + 1) (.loop r1)) B) : keepAbove (n + 2) A (B.putObj (n + 1) (.loop r2)) :=
  ⟨by have := h.size; simp at this ⊢; exact this, fun k h1 h2 => by
    rw [World.putObj_heap_other (by omega), h.block k h1 (by simpa using h2), World.putObj_heap_other (by omega)]⟩

set_option maxHeartbeats 400000 in
theorem square_any (n : Int) (w : World) (h0 : 2 ≤ n) (h1 : n ≤ 100) :
    Calls Try.prog 92 #[.int .i64 n] w fun e w' => e = .returned (.bool (decide (rootF n * rootF n = n))) ∧ w = w' := by
  obtain ⟨b0, b1, b2⟩ := rootF_spec n (by omega) (by omega)
  have hb : 0 ≤ rootF n * rootF n := sq_nonneg _
  go_enter Try.func92, Try.ntmps92
  go_wp2_with (first | (go_at_call 111; refine (refRoot_any _ _).mono ?_; rintro e w' ⟨rfl, rfl⟩))
  go_ret
  exact ⟨ret_bool (by by_cases h : rootF n * rootF n = n <;> simp [h]), rfl⟩

set_option maxHeartbeats 400000 in
theorem Valid_any (d : Int) (w : World) :
    Calls Try.prog 62 #[.int .i64 d] w fun e w' => e = .returned (.bool (isD d)) ∧ w = w' := by
  by_cases h0 : d < 2
  · go_enter Try.func62, Try.ntmps62
    go_wp2
    go_ret
    exact ⟨ret_bool (by simp [isD]; omega), rfl⟩
  · by_cases h1 : 100 < d
    · go_enter Try.func62, Try.ntmps62
      go_wp2
      go_ret
      exact ⟨ret_bool (by simp [isD]; omega), rfl⟩
    · go_enter Try.func62, Try.ntmps62
      go_wp2_with (first | (go_at_call 92; refine (square_any _ _ (by omega) (by omega)).mono ?_; rintro e w' ⟨rfl, rfl⟩))
      go_ret
      refine ⟨ret_bool ?_, rfl⟩
      have e : (decide (2 ≤ d)) = true := by simp; omega
      have e' : (decide (d ≤ 100)) = true := by simp; omega
      unfold isD
      rw [e, e']
      simp

end Go.Proofs.Ytbdabpmpfciibaa.pl
