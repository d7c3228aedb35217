/- The walks of pell.validN and within; bounds. Conditions as stated in each theorem. -/
import Derived.Test.YtbdabpmpfciibaaPlConvergent
namespace Go.Proofs.Ytbdabpmpfciibaa.pl
open Go.RowKit
def isN (n : Int) : Bool := decide (-100 ≤ n) && decide (n ≤ 100) && !decide (n = 0)
set_option maxHeartbeats 400000 in
theorem within_yes (n m : Int) (w : World) (_hm : 0 ≤ m) (_hm' : m ≤ 1000000000) (h1 : -m ≤ n) (h2 : n ≤ m) :
    Calls Try.prog 108 #[.int .i64 n, .int .i64 m] w fun e w' => e = .returned (.bool true) ∧ w = w' := by
  go_enter Try.func108, Try.ntmps108
  go_wp2
  go_ret
  exact ⟨rfl, rfl⟩
set_option maxHeartbeats 400000 in
theorem within_no (n m : Int) (w : World) (_hm : 0 ≤ m) (_hm' : m ≤ 1000000000) (h1 : n < -m ∨ m < n) :
    Calls Try.prog 108 #[.int .i64 n, .int .i64 m] w fun e w' => e = .returned (.bool false) ∧ w = w' := by
  rcases h1 with h | h
  · go_enter Try.func108, Try.ntmps108
    go_wp2
    go_ret
    exact ⟨rfl, rfl⟩
  · go_enter Try.func108, Try.ntmps108
    go_wp2
    go_ret
    exact ⟨ret_bool (by simp; omega), rfl⟩

set_option maxHeartbeats 400000 in
theorem validN_yes (n : Int) (w : World) (h : isN n = true) :
    Calls Try.prog 89 #[.int .i64 n] w fun e w' => e = .returned (.bool true) ∧ w = w' := by
  simp [isN] at h
  have b : (n != 0) = true := by simp; omega
  go_enter Try.func89, Try.ntmps89
  go_wp2_with (go_at_call 108; refine (within_yes _ _ _ (by omega) (by omega) (by omega) (by omega)).mono ?_; rintro e w' ⟨rfl, rfl⟩)
  go_ret
  exact ⟨rfl, rfl⟩
set_option maxHeartbeats 400000 in
theorem validN_no (n : Int) (w : World) (h : isN n = false) :
    Calls Try.prog 89 #[.int .i64 n] w fun e w' => e = .returned (.bool false) ∧ w = w' := by
  by_cases h0 : n = 0
  · subst h0
    go_enter Try.func89, Try.ntmps89
    go_wp2
    go_ret
    exact ⟨rfl, rfl⟩
  · have b : (n != 0) = true := by simp; omega
    have h1 : n < -100 ∨ 100 < n := by simp [isN] at h; omega
    go_enter Try.func89, Try.ntmps89
    go_wp2_with (go_at_call 108; refine (within_no _ _ _ (by omega) (by omega) (by omega)).mono ?_; rintro e w' ⟨rfl, rfl⟩)
    go_ret
    exact ⟨rfl, rfl⟩
theorem abs_sq {x m : Int} (h1 : -m ≤ x) (h2 : x ≤ m) : x * x ≤ m * m := by
  rcases Int.le_total 0 x with h | h
  · exact sq_le h h2
  · have := sq_le (a := -x) (b := m) (by omega) (by omega)
    have e : -x * -x = x * x := by grind
    omega
theorem dyy_bd {d y : Int} (hd0 : 0 ≤ d) (hd1 : d ≤ 100) (h1 : -100000 ≤ y) (h2 : y ≤ 100000) :
    -(100 * 100000) ≤ d * y ∧ d * y ≤ 100 * 100000 ∧ 0 ≤ d * y * y ∧ d * y * y ≤ 1000000000000 := by
  have s1 := sq_nonneg y
  have hy : y * y ≤ 100000 * 100000 := abs_sq h1 h2
  have a1 : d * -100000 ≤ d * y := Int.mul_le_mul_of_nonneg_left h1 hd0
  have a2 : d * y ≤ d * 100000 := Int.mul_le_mul_of_nonneg_left h2 hd0
  have s3 : d * y * y = d * (y * y) := Int.mul_assoc _ _ _
  have s4 : 0 ≤ d * (y * y) := Int.mul_nonneg (by omega) s1
  have s5 : d * (y * y) ≤ 100 * (100000 * 100000) := Int.mul_le_mul (by omega) hy s1 (by omega)
  rw [s3]
  omega

theorem isN_bd {n : Int} (h : isN n = true) : -100 ≤ n ∧ n ≤ 100 ∧ n ≠ 0 := by
  simp [isN] at h
  omega

end Go.Proofs.Ytbdabpmpfciibaa.pl
