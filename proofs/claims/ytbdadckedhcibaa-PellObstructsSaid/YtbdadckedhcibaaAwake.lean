/- The walks of pell.right, Unit, Right, gherkinlaw01.awake, and gherkinref01.square, Valid, Number and pell.validN. Conditions as stated in each theorem. -/
import Derived.Test.YtbdadckedhcibaaUnit
namespace Go.Proofs.Ytbdadckedhcibaa
open Go.RowKit

def uX (d : Int) : Int := cvP d (uK d + 1)
def uY (d : Int) : Int := cvQ d (uK d + 1)
def uN (d : Int) : Int := nrm d (uK d)
def rtX (d : Int) : Int := if uN d = 1 then uX d else uX d * uX d + d * uY d * uY d
def rtY (d : Int) : Int := if uN d = 1 then uY d else 2 * uX d * uY d

theorem uU {d : Int} (hd : isD d = true) :
    1 ≤ uX d ∧ uX d ≤ 3000000 ∧ 1 ≤ uY d ∧ uY d ≤ 300000 ∧ uX d * uX d ≤ 9000000000000 ∧ d * uY d ≤ 30000000 ∧ d * uY d * uY d ≤ 9000000000000 := u_facts hd (Nat.le_refl _)

theorem unit_calls (d : Int) (hd : isD d = true) (w : World) :
    Calls Try.prog 46 #[.int .i64 d] w fun e w' => e = .returned (.tuple #[.int .i64 (uX d), .int .i64 (uY d), .int .i64 (uN d)]) ∧ Below w.heap.size w w' := unit_any d hd w

set_option maxHeartbeats 400000 in
theorem right_any (d : Int) (hd : isD d = true) (w : World) :
    Calls Try.prog 47 #[.int .i64 d] w fun e w' => e = .returned (.tuple #[.int .i64 (rtX d), .int .i64 (rtY d)]) ∧ Below w.heap.size w w' := by
  have hd2 := isD_bd hd
  obtain ⟨f1, f2, f3, f4, f5, f6, f7⟩ := uU hd
  have s0 : 0 ≤ uX d * uX d := sq_nonneg _
  have s1 : 0 ≤ d * uY d := Int.mul_nonneg (by omega) (by omega)
  have s2 : 0 ≤ d * uY d * uY d := Int.mul_nonneg s1 (by omega)
  have s3 : 0 ≤ 2 * uX d * uY d := Int.mul_nonneg (by omega) (by omega)
  have s4 : 2 * uX d * uY d ≤ 6000000 * 300000 := Int.mul_le_mul (by omega) (by omega) (by omega) (by omega)
  by_cases hn : uN d = 1
  · have b1 : (uN d == 1) = true := by simp [hn]
    have ex : rtX d = uX d := if_pos hn
    have ey : rtY d = uY d := if_pos hn
    rw [ex, ey]
    clear hn ex ey
    go_enter Try.func47, Try.ntmps47
    go_wp2_with (go_at_call 46; refine (unit_calls _ hd _).mono ?_; rintro e w' ⟨rfl, hb⟩)
    go_ret2
    exact ⟨rfl, hb⟩
  · have b1 : (uN d == 1) = false := by simp [hn]
    have ex : rtX d = uX d * uX d + d * uY d * uY d := if_neg hn
    have ey : rtY d = 2 * uX d * uY d := if_neg hn
    rw [ex, ey]
    clear hn ex ey
    go_enter Try.func47, Try.ntmps47
    go_wp2_with (go_at_call 46; refine (unit_calls _ hd _).mono ?_; rintro e w' ⟨rfl, hb⟩)
    go_ret2
    exact ⟨rfl, hb⟩

set_option maxHeartbeats 400000 in
theorem Unit_yes (d : Int) (hd : isD d = true) (w : World) :
    Calls Try.prog 21 #[.int .i64 d] w fun e w' => e = .returned (.tuple #[.int .i64 (uX d), .int .i64 (uY d), .int .i64 (uN d), .int .i64 0]) ∧ Below w.heap.size w w' := by
  go_enter Try.func21, Try.ntmps21
  go_wp2_with (first | (go_at_call 41; refine (validD_any _ _).mono ?_; rintro e w' ⟨rfl, rfl⟩) | (go_at_call 46; refine (unit_calls _ hd _).mono ?_; rintro e w' ⟨rfl, hb⟩))
  refine bodyPost_ret (v := .tuple #[.int .i64 (uX d), .int .i64 (uY d), .int .i64 (uN d), .int .i64 0]) (by simp [results, Try.results21, go_sem]) rfl ⟨rfl, hb⟩

set_option maxHeartbeats 400000 in
theorem Unit_no (d : Int) (hd : isD d = false) (w : World) :
    Calls Try.prog 21 #[.int .i64 d] w fun e w' => e = .returned (.tuple #[.int .i64 0, .int .i64 0, .int .i64 0, .int .i64 2]) ∧ w = w' := by
  go_enter Try.func21, Try.ntmps21
  go_wp2_with (first | (go_at_call 41; refine (validD_any _ _).mono ?_; rintro e w' ⟨rfl, rfl⟩))
  refine bodyPost_ret (v := .tuple #[.int .i64 0, .int .i64 0, .int .i64 0, .int .i64 2]) (by simp [results, Try.results21, go_sem]) rfl ⟨rfl, rfl⟩

set_option maxHeartbeats 400000 in
theorem Right_yes (d : Int) (hd : isD d = true) (w : World) :
    Calls Try.prog 22 #[.int .i64 d] w fun e w' => e = .returned (.tuple #[.int .i64 (rtX d), .int .i64 (rtY d), .int .i64 0]) ∧ Below w.heap.size w w' := by
  go_enter Try.func22, Try.ntmps22
  go_wp2_with (first | (go_at_call 41; refine (validD_any _ _).mono ?_; rintro e w' ⟨rfl, rfl⟩) | (go_at_call 47; refine (right_any _ hd _).mono ?_; rintro e w' ⟨rfl, hb⟩))
  go_ret3
  exact ⟨rfl, hb⟩

set_option maxHeartbeats 400000 in
theorem Right_no (d : Int) (hd : isD d = false) (w : World) :
    Calls Try.prog 22 #[.int .i64 d] w fun e w' => e = .returned (.tuple #[.int .i64 0, .int .i64 0, .int .i64 2]) ∧ w = w' := by
  go_enter Try.func22, Try.ntmps22
  go_wp2_with (first | (go_at_call 41; refine (validD_any _ _).mono ?_; rintro e w' ⟨rfl, rfl⟩))
  go_ret3
  exact ⟨rfl, rfl⟩

theorem isD3 : isD 3 = true := by decide +kernel
theorem u3 : uX 3 = 2 ∧ uY 3 = 1 ∧ uN 3 = 1 := by decide +kernel

theorem Unit_3 (w : World) : Calls Try.prog 21 #[.int .i64 3] w fun e w' => e = .returned (.tuple #[.int .i64 2, .int .i64 1, .int .i64 1, .int .i64 0]) ∧ Below w.heap.size w w' := by
  have h := Unit_yes 3 isD3 w
  rw [u3.1, u3.2.1, u3.2.2] at h
  exact h

set_option maxHeartbeats 400000 in
theorem awake_any (w : World) :
    Calls Try.prog 17 #[] w fun e w' => e = .returned (.bool true) ∧ Below w.heap.size w w' := by
  go_enter Try.func17, Try.ntmps17
  go_wp2_with (go_at_call 21; refine (Unit_3 _).mono ?_; rintro e w' ⟨rfl, hb⟩)
  go_ret
  exact ⟨rfl, hb⟩

set_option maxHeartbeats 400000 in
theorem square_any (n : Int) (w : World) (h0 : 2 ≤ n) (h1 : n ≤ 100) :
    Calls Try.prog 44 #[.int .i64 n] w fun e w' => e = .returned (.bool (decide (rootF n * rootF n = n))) ∧ w = w' := by
  obtain ⟨b0, b1, b2⟩ := rootF_spec n (by omega) (by omega)
  have hb : 0 ≤ rootF n * rootF n := sq_nonneg _
  go_enter Try.func44, Try.ntmps44
  go_wp2_with (first | (go_at_call 45; refine (refRoot_any _ _).mono ?_; rintro e w' ⟨rfl, rfl⟩))
  go_ret
  exact ⟨ret_bool (by by_cases h : rootF n * rootF n = n <;> simp [h]), rfl⟩

set_option maxHeartbeats 400000 in
theorem Valid_any (d : Int) (w : World) :
    Calls Try.prog 16 #[.int .i64 d] w fun e w' => e = .returned (.bool (isD d)) ∧ w = w' := by
  by_cases h0 : d < 2
  · go_enter Try.func16, Try.ntmps16
    go_wp2
    go_ret
    exact ⟨ret_bool (by simp [isD]; omega), rfl⟩
  · by_cases h1 : 100 < d
    · go_enter Try.func16, Try.ntmps16
      go_wp2
      go_ret
      exact ⟨ret_bool (by simp [isD]; omega), rfl⟩
    · go_enter Try.func16, Try.ntmps16
      go_wp2_with (first | (go_at_call 44; refine (square_any _ _ (by omega) (by omega)).mono ?_; rintro e w' ⟨rfl, rfl⟩))
      go_ret
      refine ⟨ret_bool ?_, rfl⟩
      have e : (decide (2 ≤ d)) = true := by simp; omega
      have e' : (decide (d ≤ 100)) = true := by simp; omega
      unfold isD
      rw [e, e']
      simp

def isN (n : Int) : Bool := decide (-100 ≤ n) && decide (n ≤ 100) && !decide (n = 0)
end Go.Proofs.Ytbdadckedhcibaa
