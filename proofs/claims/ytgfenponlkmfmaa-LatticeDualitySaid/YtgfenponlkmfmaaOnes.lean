/- The walk of bits.OnesCount at a number of four bits. Condition: it has four bits. -/
import Derived.Test.YtgfenponlkmfmaaTab
namespace Go.Proofs.Ytgfenponlkmfmaa
open Go.RowKit
attribute [local go_sem] Oper.semAt_some

/-- How many bits are set. -/
def pc (t : Nat) : Nat := t % 2 + t / 2 % 2 + t / 4 % 2 + t / 8 % 2

theorem ones_0 (w : World) : Calls Try.prog 129 #[.int .u64 0] w fun e w' => e = .returned (.int .i64 (pc 0 : Nat)) ∧ w = w' := by
  go_enter Try.func129, Try.ntmps129
  go_wp2
  go_ret
  exact ⟨ret_int (by decide +kernel), rfl⟩
theorem ones_1 (w : World) : Calls Try.prog 129 #[.int .u64 1] w fun e w' => e = .returned (.int .i64 (pc 1 : Nat)) ∧ w = w' := by
  go_enter Try.func129, Try.ntmps129
  go_wp2
  go_ret
  exact ⟨ret_int (by decide +kernel), rfl⟩
theorem ones_2 (w : World) : Calls Try.prog 129 #[.int .u64 2] w fun e w' => e = .returned (.int .i64 (pc 2 : Nat)) ∧ w = w' := by
  go_enter Try.func129, Try.ntmps129
  go_wp2
  go_ret
  exact ⟨ret_int (by decide +kernel), rfl⟩
theorem ones_3 (w : World) : Calls Try.prog 129 #[.int .u64 3] w fun e w' => e = .returned (.int .i64 (pc 3 : Nat)) ∧ w = w' := by
  go_enter Try.func129, Try.ntmps129
  go_wp2
  go_ret
  exact ⟨ret_int (by decide +kernel), rfl⟩
theorem ones_4 (w : World) : Calls Try.prog 129 #[.int .u64 4] w fun e w' => e = .returned (.int .i64 (pc 4 : Nat)) ∧ w = w' := by
  go_enter Try.func129, Try.ntmps129
  go_wp2
  go_ret
  exact ⟨ret_int (by decide +kernel), rfl⟩
theorem ones_5 (w : World) : Calls Try.prog 129 #[.int .u64 5] w fun e w' => e = .returned (.int .i64 (pc 5 : Nat)) ∧ w = w' := by
  go_enter Try.func129, Try.ntmps129
  go_wp2
  go_ret
  exact ⟨ret_int (by decide +kernel), rfl⟩
theorem ones_6 (w : World) : Calls Try.prog 129 #[.int .u64 6] w fun e w' => e = .returned (.int .i64 (pc 6 : Nat)) ∧ w = w' := by
  go_enter Try.func129, Try.ntmps129
  go_wp2
  go_ret
  exact ⟨ret_int (by decide +kernel), rfl⟩
theorem ones_7 (w : World) : Calls Try.prog 129 #[.int .u64 7] w fun e w' => e = .returned (.int .i64 (pc 7 : Nat)) ∧ w = w' := by
  go_enter Try.func129, Try.ntmps129
  go_wp2
  go_ret
  exact ⟨ret_int (by decide +kernel), rfl⟩
theorem ones_8 (w : World) : Calls Try.prog 129 #[.int .u64 8] w fun e w' => e = .returned (.int .i64 (pc 8 : Nat)) ∧ w = w' := by
  go_enter Try.func129, Try.ntmps129
  go_wp2
  go_ret
  exact ⟨ret_int (by decide +kernel), rfl⟩
theorem ones_9 (w : World) : Calls Try.prog 129 #[.int .u64 9] w fun e w' => e = .returned (.int .i64 (pc 9 : Nat)) ∧ w = w' := by
  go_enter Try.func129, Try.ntmps129
  go_wp2
  go_ret
  exact ⟨ret_int (by decide +kernel), rfl⟩
theorem ones_10 (w : World) : Calls Try.prog 129 #[.int .u64 10] w fun e w' => e = .returned (.int .i64 (pc 10 : Nat)) ∧ w = w' := by
  go_enter Try.func129, Try.ntmps129
  go_wp2
  go_ret
  exact ⟨ret_int (by decide +kernel), rfl⟩
theorem ones_11 (w : World) : Calls Try.prog 129 #[.int .u64 11] w fun e w' => e = .returned (.int .i64 (pc 11 : Nat)) ∧ w = w' := by
  go_enter Try.func129, Try.ntmps129
  go_wp2
  go_ret
  exact ⟨ret_int (by decide +kernel), rfl⟩
theorem ones_12 (w : World) : Calls Try.prog 129 #[.int .u64 12] w fun e w' => e = .returned (.int .i64 (pc 12 : Nat)) ∧ w = w' := by
  go_enter Try.func129, Try.ntmps129
  go_wp2
  go_ret
  exact ⟨ret_int (by decide +kernel), rfl⟩
theorem ones_13 (w : World) : Calls Try.prog 129 #[.int .u64 13] w fun e w' => e = .returned (.int .i64 (pc 13 : Nat)) ∧ w = w' := by
  go_enter Try.func129, Try.ntmps129
  go_wp2
  go_ret
  exact ⟨ret_int (by decide +kernel), rfl⟩
theorem ones_14 (w : World) : Calls Try.prog 129 #[.int .u64 14] w fun e w' => e = .returned (.int .i64 (pc 14 : Nat)) ∧ w = w' := by
  go_enter Try.func129, Try.ntmps129
  go_wp2
  go_ret
  exact ⟨ret_int (by decide +kernel), rfl⟩
theorem ones_15 (w : World) : Calls Try.prog 129 #[.int .u64 15] w fun e w' => e = .returned (.int .i64 (pc 15 : Nat)) ∧ w = w' := by
  go_enter Try.func129, Try.ntmps129
  go_wp2
  go_ret
  exact ⟨ret_int (by decide +kernel), rfl⟩
theorem ones_any (t : Nat) (ht : t < 16) (w : World) : Calls Try.prog 129 #[.int .u64 (t : Int)] w fun e w' => e = .returned (.int .i64 (pc t : Nat)) ∧ w = w' := by
  match t, ht with
  | 0, _ => exact ones_0 w
  | 1, _ => exact ones_1 w
  | 2, _ => exact ones_2 w
  | 3, _ => exact ones_3 w
  | 4, _ => exact ones_4 w
  | 5, _ => exact ones_5 w
  | 6, _ => exact ones_6 w
  | 7, _ => exact ones_7 w
  | 8, _ => exact ones_8 w
  | 9, _ => exact ones_9 w
  | 10, _ => exact ones_10 w
  | 11, _ => exact ones_11 w
  | 12, _ => exact ones_12 w
  | 13, _ => exact ones_13 w
  | 14, _ => exact ones_14 w
  | 15, _ => exact ones_15 w
  | k + 16, h => exact absurd h (by omega)
theorem onesCount_any (t : Nat) (ht : t < 16) (w : World) : Calls Try.prog 114 #[.int .u64 (t : Int)] w fun e w' => e = .returned (.int .i64 (pc t : Nat)) ∧ w = w' := by
  have h := ones_any t ht w
  obtain ⟨R, hR⟩ : ∃ R, pc t = R := ⟨_, rfl⟩
  rw [hR] at h ⊢
  have H := Lib.hid h
  clear h hR
  go_enter Try.func114, Try.ntmps114
  go_wp2_with fail
  refine H.out.mono ?_
  rintro e w1 ⟨rfl, rfl⟩
  go_wp2
  go_ret
  exact ⟨rfl, rfl⟩
end Go.Proofs.Ytgfenponlkmfmaa
