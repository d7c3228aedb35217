/- The walks of validShare, least, minus, and of the reference's Valid, gcd and less. Conditions: the numbers are in range. -/
import Derived.Test.YtbdiknlbmjdpeaaBase
namespace Go.Proofs.Ytbdiknlbmjdpeaa
open Go.RowKit
attribute [local go_sem] Oper.semAt_some

/-- a / b is a share. -/
def isSh (a b : Int) : Bool := decide (1 ≤ a) && decide (a < b) && decide (b ≤ 60)
theorem isSh_spec {a b : Int} : isSh a b = true ↔ 1 ≤ a ∧ a < b ∧ b ≤ 60 := by
  simp [isSh, and_assoc]
theorem valid_any (a b : Int) (w : World) : Calls Try.prog 38 #[.int .i64 a, .int .i64 b] w fun e w' => e = .returned (.bool (isSh a b)) ∧ w = w' := by
  obtain ⟨B, hB⟩ : ∃ B, isSh a b = B := ⟨_, rfl⟩
  rw [hB]
  unfold isSh at hB
  by_cases h1 : 1 ≤ a
  · by_cases h2 : a < b
    · by_cases h3 : b ≤ 60
      · obtain rfl : B = true := by rw [← hB]; simp [h1, h2, h3]
        clear hB
        go_enter Try.func38, Try.ntmps38
        go_wp2
        go_ret
        exact ⟨rfl, rfl⟩
      · obtain rfl : B = false := by rw [← hB]; simp [h3]
        clear hB
        go_enter Try.func38, Try.ntmps38
        go_wp2
        go_ret
        exact ⟨rfl, rfl⟩
    · obtain rfl : B = false := by rw [← hB]; simp [h2]
      clear hB
      go_enter Try.func38, Try.ntmps38
      go_wp2
      go_ret
      exact ⟨rfl, rfl⟩
  · obtain rfl : B = false := by rw [← hB]; simp [h1]
    clear hB
    go_enter Try.func38, Try.ntmps38
    go_wp2
    go_ret
    exact ⟨rfl, rfl⟩
theorem validR_any (a b : Int) (w : World) : Calls Try.prog 17 #[.int .i64 a, .int .i64 b] w fun e w' => e = .returned (.bool (isSh a b)) ∧ w = w' := by
  obtain ⟨B, hB⟩ : ∃ B, isSh a b = B := ⟨_, rfl⟩
  rw [hB]
  unfold isSh at hB
  by_cases h0 : 2 ≤ b
  · by_cases h3 : b ≤ 60
    · by_cases h1 : 1 ≤ a
      · by_cases h2 : a < b
        · obtain rfl : B = true := by rw [← hB]; simp [h1, h2, h3]
          clear hB
          go_enter Try.func17, Try.ntmps17
          go_wp2
          go_ret
          exact ⟨rfl, rfl⟩
        · obtain rfl : B = false := by rw [← hB]; simp [h2]
          clear hB
          go_enter Try.func17, Try.ntmps17
          go_wp2
          go_ret
          exact ⟨rfl, rfl⟩
      · obtain rfl : B = false := by rw [← hB]; simp [h1]
        clear hB
        go_enter Try.func17, Try.ntmps17
        go_wp2
        go_ret
        exact ⟨rfl, rfl⟩
    · obtain rfl : B = false := by rw [← hB]; simp [h3]
      clear hB
      go_enter Try.func17, Try.ntmps17
      go_wp2
      go_ret
      exact ⟨rfl, rfl⟩
  · obtain rfl : B = false := by rw [← hB]; simp; omega
    clear hB
    go_enter Try.func17, Try.ntmps17
    go_wp2
    go_ret
    exact ⟨rfl, rfl⟩

theorem ceil_cast {num den : Nat} (hn : 0 < num) : ((den : Int) + (num : Int) - 1) / (num : Int) = ((ceilD num den : Nat) : Int) := by
  unfold ceilD
  rw [Int.natCast_ediv, show ((den + num - 1 : Nat) : Int) = (den : Int) + (num : Int) - 1 by omega]
theorem least_any (num den : Nat) (w : World) (hn : 0 < num) (h1 : num ≤ 1000000000000000000) (h2 : den ≤ 1000000000000000000) :
    Calls Try.prog 40 #[.agg #[.int .i64 (num : Int), .int .i64 (den : Int)]] w fun e w' => e = .returned (.int .i64 ((ceilD num den : Nat) : Int)) ∧ Below w.heap.size w w' := by
  have hc := ceil_cast (den := den) hn
  obtain ⟨C, hC⟩ : ∃ C, ceilD num den = C := ⟨_, rfl⟩
  rw [hC] at hc ⊢
  have hne : ¬ (num : Int) = 0 := by omega
  have n1 : (0 : Int) < (num : Int) := by omega
  have d0 : (0 : Int) ≤ (den : Int) := by omega
  have hle := Nat.div_le_self (den + num - 1) num
  have hcl : C ≤ den + num := by
    rw [← hC]; unfold ceilD; omega
  have HC := Lib.hid hc
  have hb := (Below.refl w.heap.size w).alloc (Nat.le_refl _) (.cells #[.int .i64 (num : Int), .int .i64 (den : Int)] 49)
  have HB := Lib.hid hb
  clear hc hC hle hb
  go_enter Try.func40, Try.ntmps40
  go_wp2
  go_ret
  exact ⟨ret_int HC.out, HB.out⟩
end Go.Proofs.Ytbdiknlbmjdpeaa
