/- The walk of Days at one prime. Conditions: the slice of the prime lies in memory. -/
import Derived.Test.YtjlaclbgfidiiaaDay
import Derived.Test.YtjlaclbgfidiiaaPlMath
namespace Go.Proofs.Ytjlaclbgfidiiaa
open Go.RowKit
attribute [local go_sem] Oper.semAt_some

/-- A prime that Days takes. -/
def pOk (p : Int) : Bool := decide (3 ≤ p) && decide (p < 300) && prB p.toNat
theorem info82 : (Try.prog.info? 82).map (fun i => (i.zero, i.size, i.bytes)) = some (some (.agg #[.int .i64 0, .int .i64 0]), 2, 16) := by kernel_rfl

set_option maxHeartbeats 4000000 in
set_option maxRecDepth 100000 in
theorem validPrimes_one (p : Int) (g : Nat) (w : World) (h : w.cell? ⟨g, 0, none⟩ = some (.int .i64 p)) :
    Calls Try.prog 76 #[.slice (some ⟨g, 0, none⟩) 1 1] w fun e w' => e = .returned (.bool (pOk p)) ∧ w = w' := by
  obtain ⟨B, hB⟩ : ∃ B, pOk p = B := ⟨_, rfl⟩
  rw [hB]
  unfold pOk at hB
  have HC := Lib.hid (fun (x : Value) w => Try.slices_Contains_empty (α := Int) (some ⟨g, 0, none⟩) 1 x w)
  have h0 : w.cell? ⟨g, 0 + 0, none⟩ = some (.int .i64 p) := h
  have HH := Lib.hid h
  by_cases h3 : 3 ≤ p
  · rw [decide_eq_true h3, Bool.true_and] at hB
    by_cases h300 : p < 300
    · rw [decide_eq_true h300, Bool.true_and] at hB
      obtain ⟨P, rfl⟩ : ∃ P : Nat, p = (P : Int) := ⟨p.toNat, by omega⟩
      rw [Int.toNat_natCast] at hB
      have hP := fun w => isPrime_any P (by omega) (by omega) w
      rw [hB] at hP
      have HP := Lib.hid hP
      clear hP hB h0 h
      go_enter Try.func76, Try.ntmps76
      go_wp2
      go_loopg [3, 4, 15] 1 (fun gk s3 s4 s15 wr => ∃ j : Nat, j + gk = 1 ∧ s15 = .int .i64 (j : Int) ∧ (j = 1 → B = true) ∧ wr = w)
      case atStart => exact ⟨0, rfl, rfl, by omega, rfl⟩
      case round =>
        obtain ⟨j, hj, rfl, hjb, rfl⟩ := hrel
        have HJB := Lib.hid hjb
        have HJ := Lib.hid hj
        by_cases hj0 : j = 0
        · subst hj0
          have h := HH.out
          have e0 : ((0 : Nat) : Int) = 0 := rfl
          rw [e0]
          clear hj hjb e0
          cases B with
          | false =>
            go_wp2_with fail
            refine (HP.out _).mono ?_
            rintro e w1 ⟨rfl, rfl⟩
            go_wp2
            go_ret
            exact ⟨rfl, rfl⟩
          | true =>
            go_wp2_with fail
            refine (HP.out _).mono ?_
            rintro e w1 ⟨rfl, rfl⟩
            go_wp2_with fail
            refine (HC.out _ _).mono ?_
            rintro e w2 ⟨rfl, rfl⟩
            go_wp2
            go_roundg 0
            case rel => exact ⟨1, rfl, rfl, fun _ => by first | trivial | rfl, rfl⟩
            case measure => have := HJ.out; omega
        · have hj1 : j = 1 := by omega
          obtain rfl : B = true := HJB.out hj1
          subst hj1
          have e1 : ((1 : Nat) : Int) = 1 := rfl
          rw [e1]
          clear hj hjb hj0 e1
          go_wp2
          go_ret
          exact ⟨rfl, rfl⟩
    · rw [decide_eq_false h300, Bool.false_and] at hB
      obtain rfl : B = false := hB.symm
      clear hB h0 h
      go_enter Try.func76, Try.ntmps76
      go_wp2
      go_loopg [3, 4, 15] 1 (fun gk s3 s4 s15 wr => s15 = .int .i64 0 ∧ wr = w)
      case atStart => exact ⟨rfl, rfl⟩
      case round =>
        obtain ⟨rfl, rfl⟩ := hrel
        have h := HH.out
        go_wp2
        go_ret
        exact ⟨rfl, rfl⟩
  · rw [decide_eq_false h3, Bool.false_and, Bool.false_and] at hB
    obtain rfl : B = false := hB.symm
    clear hB h0 h
    go_enter Try.func76, Try.ntmps76
    go_wp2
    go_loopg [3, 4, 15] 1 (fun gk s3 s4 s15 wr => s15 = .int .i64 0 ∧ wr = w)
    case atStart => exact ⟨rfl, rfl⟩
    case round =>
      obtain ⟨rfl, rfl⟩ := hrel
      have h := HH.out
      go_wp2
      go_ret
      exact ⟨rfl, rfl⟩

set_option maxHeartbeats 4000000 in
set_option maxRecDepth 100000 in
theorem whole_nil (w : World) : Calls Try.prog 88 #[.slice none 0 0] w fun e w' => e = .returned (.int .i64 1) ∧ w = w' := by
  go_enter Try.func88, Try.ntmps88
  go_wp2
  go_loopg [3, 8] 0 (fun gk s3 s8 wr => s3 = .int .i64 1 ∧ s8 = .int .i64 0 ∧ wr = w)
  case atStart => exact ⟨rfl, rfl, rfl⟩
  case round =>
    obtain ⟨rfl, rfl, rfl⟩ := hrel
    go_wp2
    go_ret
    exact ⟨rfl, rfl⟩
set_option maxHeartbeats 4000000 in
set_option maxRecDepth 100000 in
theorem whole_one (d1 : Int) (m g c : Nat) (w : World) (m0 : 1 ≤ m) (m1 : m ≤ 60) (h0 : w.cell? ⟨g, 0, none⟩ = some (.int .i64 d1)) (h1 : w.cell? ⟨g, 1, none⟩ = some (.int .i64 (m : Int))) :
    Calls Try.prog 88 #[.slice (some ⟨g, 0, none⟩) 1 c] w fun e w' => e = .returned (.int .i64 (m : Int)) ∧ Below w.heap.size w w' := by
  have hG := fun w => gcd_any 1 m (by omega) (by omega) w
  rw [Nat.gcd_one_left] at hG
  have H0 := Lib.hid h0
  have H1 := Lib.hid h1
  have e0 := Lib.cell?_alloc_some (.cells #[.int .i64 d1, .int .i64 (m : Int)] 82) h0
  have e1 := Lib.cell?_alloc_some (.cells #[.int .i64 d1, .int .i64 (m : Int)] 82) h1
  have HB := Lib.hid ((Below.refl w.heap.size w).alloc (Nat.le_refl _) (.cells #[.int .i64 d1, .int .i64 (m : Int)] 82))
  have HE0 := Lib.hid e0
  have HE1 := Lib.hid e1
  clear h0 h1 e0 e1
  go_enter Try.func88, Try.ntmps88
  go_wp2
  go_loopg [3, 8] 1 (fun gk s3 s8 wr => (gk = 1 ∧ s3 = .int .i64 1 ∧ s8 = .int .i64 0 ∧ wr = w) ∨ (gk = 0 ∧ s3 = .int .i64 (m : Int) ∧ s8 = .int .i64 1 ∧ Below w.heap.size w wr))
  case atStart => exact .inl ⟨rfl, rfl, rfl, rfl⟩
  case round =>
    rcases hrel with ⟨rfl, rfl, rfl, rfl⟩ | ⟨rfl, rfl, rfl, hb⟩
    · have h0 := H0.out
      have h1 := H1.out
      have e0 := HE0.out
      have e1 := HE1.out
      go_wp2
      go_quiet ((go_at_call 91; exact Calls.quiet_of (hG _)))
      go_wp2
      go_roundg 0
      case rel => exact .inr ⟨rfl, by first | rfl | (congr 1; go_num), rfl, below_drewN HB.out _⟩
      case measure => omega
    · have HB2 := Lib.hid hb
      clear hb
      go_wp2
      go_ret
      exact ⟨rfl, HB2.out⟩
end Go.Proofs.Ytjlaclbgfidiiaa
