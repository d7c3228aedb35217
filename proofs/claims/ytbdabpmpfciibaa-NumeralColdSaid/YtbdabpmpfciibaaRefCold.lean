/- The walks of the reference's Pair and Cold, and of the law's heaps. Condition: heaps are at most a million. -/
import Derived.Test.YtbdabpmpfciibaaGame6
namespace Go.Proofs.Ytbdabpmpfciibaa
open Go.RowKit
attribute [local go_sem] Oper.semAt_some

theorem gold_below {n A : Int} (n1 : 1 ≤ n) (n2 : n ≤ 1000000) (a0 : 0 ≤ A) (h : 2880067194370816120 * A < 4660046610375530309 * n) : A * A < A * n + n * n := by
  have e1 : 2880067194370816120 * (A * A) ≤ 4660046610375530309 * (A * n) - A := by
    have := Int.mul_le_mul_of_nonneg_left (show 2880067194370816120 * A ≤ 4660046610375530309 * n - 1 by omega) a0
    have k1 : A * (2880067194370816120 * A) = 2880067194370816120 * (A * A) := by grind
    have k2 : A * (4660046610375530309 * n - 1) = 4660046610375530309 * (A * n) - A := by grind
    omega
  have e2 : 2880067194370816120 * (A * n) ≤ 4660046610375530309 * (n * n) - n := by
    have := Int.mul_le_mul_of_nonneg_left (show 2880067194370816120 * A ≤ 4660046610375530309 * n - 1 by omega) (show 0 ≤ n by omega)
    have k1 : n * (2880067194370816120 * A) = 2880067194370816120 * (A * n) := by grind
    have k2 : n * (4660046610375530309 * n - 1) = 4660046610375530309 * (n * n) - n := by grind
    omega
  have e3 : n * n ≤ 1000000 * n := Int.mul_le_mul_of_nonneg_right n2 (by omega)
  generalize A * A = X at *
  generalize A * n = Y at *
  generalize n * n = Z at *
  omega
theorem gold_above {n B : Int} (n1 : 1 ≤ n) (n2 : n ≤ 1000000) (b0 : 0 ≤ B) (h : 4660046610375530309 * n < 2880067194370816120 * B) : B * n + n * n < B * B := by
  have e1 : 4660046610375530309 * (B * n) + B ≤ 2880067194370816120 * (B * B) := by
    have := Int.mul_le_mul_of_nonneg_left (show 4660046610375530309 * n + 1 ≤ 2880067194370816120 * B by omega) b0
    have k1 : B * (2880067194370816120 * B) = 2880067194370816120 * (B * B) := by grind
    have k2 : B * (4660046610375530309 * n + 1) = 4660046610375530309 * (B * n) + B := by grind
    omega
  have e2 : 4660046610375530309 * (n * n) + n ≤ 2880067194370816120 * (B * n) := by
    have := Int.mul_le_mul_of_nonneg_left (show 4660046610375530309 * n + 1 ≤ 2880067194370816120 * B by omega) (show 0 ≤ n by omega)
    have k1 : n * (2880067194370816120 * B) = 2880067194370816120 * (B * n) := by grind
    have k2 : n * (4660046610375530309 * n + 1) = 4660046610375530309 * (n * n) + n := by grind
    omega
  have e3 : n * n ≤ 1000000 * n := Int.mul_le_mul_of_nonneg_right n2 (by omega)
  have e4 : 0 ≤ n * n := Int.mul_nonneg (by omega) (by omega)
  generalize B * B = X at *
  generalize B * n = Y at *
  generalize n * n = Z at *
  rcases Int.lt_or_le (Y + Z) X with h9 | h9
  · exact h9
  · have f1 : 1779979416004714189 * Y + B ≤ 2880067194370816120 * Z := by omega
    omega
/-- The reference's first heap is the code's. -/
theorem root_cold {n r : Int} (n0 : 0 ≤ n) (n2 : n ≤ 1000000) (r0 : 0 ≤ r) (h1 : r * r ≤ 5 * n * n) (h2 : 5 * n * n < (r + 1) * (r + 1)) : (n + r).tdiv 2 = coldA n := by
  rw [Int.tdiv_eq_ediv_of_nonneg (by omega)]
  by_cases hz : n = 0
  · subst hz
    have : r = 0 := by
      by_cases hr : r = 0
      · exact hr
      · have : 1 * 1 ≤ r * r := Int.mul_le_mul (by omega) (by omega) (by omega) (by omega)
        omega
    subst this
    rw [coldA_0]; rfl
  · have hc := coldA_near (n := n) (by omega) (by omega)
    have hb := coldA_bd (n := n) n0 (by omega)
    obtain ⟨A, hA⟩ : ∃ A, coldA n = A := ⟨_, rfl⟩
    rw [hA] at hc hb ⊢
    have g1 := gold_below (n := n) (A := A) (by omega) n2 (by omega) hc.1
    have g2 := gold_above (n := n) (B := A + 1) (by omega) n2 (by omega) (by omega)
    have s1 : (2 * A - n) * (2 * A - n) < 5 * n * n := by
      have : (2 * A - n) * (2 * A - n) = 4 * (A * A) - 4 * (A * n) + n * n := by grind
      have : 5 * n * n = 5 * (n * n) := by grind
      omega
    have s2 : 5 * n * n < (2 * (A + 1) - n) * (2 * (A + 1) - n) := by
      have : (2 * (A + 1) - n) * (2 * (A + 1) - n) = 4 * ((A + 1) * (A + 1)) - 4 * ((A + 1) * n) + n * n := by grind
      have : 5 * n * n = 5 * (n * n) := by grind
      omega
    have t1 : 2 * A - n < r + 1 := by
      rcases Int.lt_or_le (2 * A - n) (r + 1) with h | h
      · exact h
      · have := Int.mul_le_mul h h (by omega) (by omega)
        omega
    have t2 : r < 2 * (A + 1) - n := by
      rcases Int.lt_or_le r (2 * (A + 1) - n) with h | h
      · exact h
      · have hnn : 0 ≤ 2 * (A + 1) - n := by omega
        have := Int.mul_le_mul h h hnn r0
        omega
    omega

def stepF : Nat → Int
  | 0 => 0
  | j + 1 => ((2 ^ j : Nat) : Int)
theorem stepF_half (j : Nat) : (stepF (j + 1)).tdiv 2 = stepF j := by
  cases j with
  | zero => rfl
  | succ j =>
    show (((2 ^ (j + 1) : Nat) : Int)).tdiv 2 = ((2 ^ j : Nat) : Int)
    rw [Int.tdiv_eq_ediv_of_nonneg (Int.natCast_nonneg _), Nat.pow_succ]
    omega
theorem pow_bd : ∀ j : Fin 32, 1 ≤ ((2 ^ j.1 : Nat) : Int) ∧ ((2 ^ j.1 : Nat) : Int) ≤ 2147483648 := by decide

set_option maxHeartbeats 4000000 in
set_option maxRecDepth 100000 in
theorem refPair_any (n : Int) (w : World) (n0 : 0 ≤ n) (n1 : n ≤ 1000000) :
    Calls Try.prog 41 #[.int .i64 n] w fun e w' => e = .returned (.agg #[.int .i64 (coldA n), .int .i64 (coldA n + n)]) ∧ Below w.heap.size w w' := by
  have hz : n * n ≤ 1000000 * 1000000 := Int.mul_le_mul n1 n1 n0 (by omega)
  have hz0 : 0 ≤ n * n := Int.mul_nonneg n0 n0
  have e5 : 5 * n * n = 5 * (n * n) := by grind
  have HB := Lib.hid (coldA_bd (n := n) n0 (by omega))
  have HP := Lib.hid (PX.start w)
  obtain ⟨N, hN⟩ : ∃ N, 5 * n * n = N := ⟨_, rfl⟩
  have N0 : 0 ≤ N := by omega
  have N1 : N ≤ 5000000000000 := by omega
  have HN := Lib.hid hN
  have HRC := Lib.hid (fun (r : Int) (h0 : 0 ≤ r) (h1 : r * r ≤ N) (h2 : N < (r + 1) * (r + 1)) => root_cold n0 n1 h0 (by rw [hN]; exact h1) (by rw [hN]; exact h2))
  clear hz hz0 e5
  go_enter Try.func41, Try.ntmps41
  go_wp2
  go_loopg [3, 4, 5] 31 (fun gk s3 s4 u5 wr => ∃ (r : Int), gk ≤ 31 ∧ s3 = .int .i64 r ∧ s4 = .int .i64 (stepF gk) ∧ 0 ≤ r ∧ r + ((2 ^ gk : Nat) : Int) ≤ 2147483648 ∧ r * r ≤ N ∧ N < (r + ((2 ^ gk : Nat) : Int)) * (r + ((2 ^ gk : Nat) : Int)) ∧ wr = w.alloc (.cells #[.int .i64 0, .int .i64 0] 46))
  case atStart => exact ⟨0, by omega, rfl, rfl, by omega, by decide, by omega, by rw [show ((2 ^ 31 : Nat) : Int) = 2147483648 from rfl]; omega, rfl⟩
  case round =>
    obtain ⟨r, hgk, rfl, rfl, r0, r1, h1, h2, rfl⟩ := hrel
    have hNN : wrap64 (wrap64 (5 * n) * n) = N := by
      have e1 : wrap64 (5 * n) = 5 * n := by unfold wrap64; omega
      rw [e1, HN.out]
      unfold wrap64; omega
    have hNN2 : wrap64 (5 * n * n) = N := by
      rw [HN.out]
      unfold wrap64; omega
    cases gk with
    | zero =>
      have hrc := HRC.out r r0 h1 (by simpa using h2)
      have hst : stepF 0 = 0 := rfl
      rw [hst]
      have hb := HB.out
      rw [← hrc] at hb
      obtain ⟨A, hA⟩ : ∃ A, (n + r).tdiv 2 = A := ⟨_, rfl⟩
      rw [hA] at hb
      have HA := Lib.hid (hrc.symm.trans hA)
      have r2 : r ≤ 2147483648 := by
        have : ((2 ^ 0 : Nat) : Int) = 1 := rfl
        omega
      clear hrc hst h1 h2 r1
      go_wp2_with (refine wpList_store_row rfl 46 (.tmp 2) (.tmp 31) rfl w.heap.size #[.int .i64 A, .int .i64 (A + n)] #[.int .i64 0, .int .i64 0] rfl rfl HP.out.h info46 rfl (one_pair _ _) ?_)
      refine bodyPost_ret (v := .agg #[.int .i64 A, .int .i64 (A + n)]) ?_ rfl ⟨by rw [HA.out], below_setRow HP.out.b (Nat.le_refl _) _⟩
      rw [results_cell_one (fn := Try.f41) (p := 2) (ty := 46) Try.results41]
      exact run_loadVar_row _ _ 46 46 _ (0, 0) _ (setRow_heap _ w.heap.size _ _ 46 (0, 0) HP.out.h) Try.underlying46 rfl info46
    | succ j =>
      obtain ⟨p0, p1⟩ := pow_bd ⟨j, by omega⟩
      have hps : ((2 ^ (j + 1) : Nat) : Int) = ((2 ^ j : Nat) : Int) + ((2 ^ j : Nat) : Int) := by rw [Nat.pow_succ]; omega
      have hst : stepF (j + 1) = ((2 ^ j : Nat) : Int) := rfl
      have hhalf := stepF_half j
      have HPJ := Lib.hid (show ∀ Q : Int, ((2 ^ j : Nat) : Int) = Q → True from fun _ _ => trivial)
      rw [hps] at r1 h2
      rw [hst] at hhalf ⊢
      obtain ⟨P, hP⟩ : ∃ P, ((2 ^ j : Nat) : Int) = P := ⟨_, rfl⟩
      simp only at p0 p1
      rw [hP] at p0 p1 r1 h2 hhalf ⊢
      obtain ⟨S, hS⟩ : ∃ S, stepF j = S := ⟨_, rfl⟩
      rw [hS] at hhalf
      have S01 : 0 ≤ S ∧ S ≤ 2147483648 := by
        rw [← hhalf, Int.tdiv_eq_ediv_of_nonneg (by omega)]; omega
      obtain ⟨S0, S1⟩ := S01
      have HPP := Lib.hid hP
      have HSS := Lib.hid hS
      obtain ⟨x, hx⟩ : ∃ x, r + P = x := ⟨_, rfl⟩
      have x0 : 0 ≤ x := by omega
      have x1 : x ≤ 2147483648 := by omega
      have hxx : x * x ≤ 2147483648 * 2147483648 := Int.mul_le_mul x1 x1 x0 (by omega)
      have hxx0 : 0 ≤ x * x := Int.mul_nonneg x0 x0
      obtain ⟨Xq, hXq⟩ : ∃ Xq, x * x = Xq := ⟨_, rfl⟩
      rw [hXq] at hxx hxx0
      have hw : wrap64 (x * x) = Xq := by rw [hXq]; unfold wrap64; omega
      have h2' : N < (x + P) * (x + P) := by rw [← hx, Int.add_assoc]; exact h2
      have HXQ := Lib.hid hXq
      have HX := Lib.hid hx
      have H2 := Lib.hid h2'
      clear hps hst hP hS h2 h2' hXq
      by_cases hle : Xq ≤ N
      · have hle2 : x * x ≤ N := by rw [HXQ.out]; exact hle
        go_wp2
        go_roundg j
        case rel => exact ⟨x, by omega, rfl, by rw [HSS.out], x0, by rw [HPP.out]; omega, hle2, by rw [HPP.out]; exact H2.out, rfl⟩
        case measure => omega
      · have hle2 : N < x * x := by rw [HXQ.out]; omega
        go_wp2
        go_roundg j
        case rel => exact ⟨r, by omega, rfl, by rw [HSS.out], r0, by rw [HPP.out]; omega, h1, by rw [HPP.out, HX.out]; exact hle2, rfl⟩
        case measure => omega

theorem isCold_le {a b : Int} (h : a ≤ b) : isCold a b = (coldA (b - a) == a) := by
  unfold isCold cpA cpB
  rw [if_neg (by omega), if_neg (by omega)]
  by_cases e : coldA (b - a) = a
  · rw [show (b == coldA (b - a) + (b - a)) = true by rw [beq_iff_eq]; omega, Bool.and_true, e]
  · have e2 : ¬ a = coldA (b - a) := fun h => e h.symm
    rw [show (a == coldA (b - a)) = false from beq_eq_false_iff_ne.2 e2, show (coldA (b - a) == a) = false from beq_eq_false_iff_ne.2 e, Bool.false_and]
theorem isCold_gt {a b : Int} (h : b < a) : isCold a b = (coldA (a - b) == b) := by
  unfold isCold cpA cpB
  rw [if_pos (by omega), if_pos (by omega), show -(b - a) = a - b by omega]
  by_cases e : coldA (a - b) = b
  · rw [show (a == coldA (a - b) - (b - a)) = true by rw [beq_iff_eq]; omega, Bool.true_and, e]
  · have e2 : ¬ b = coldA (a - b) := fun h => e h.symm
    rw [show (b == coldA (a - b)) = false from beq_eq_false_iff_ne.2 e2, show (coldA (a - b) == b) = false from beq_eq_false_iff_ne.2 e, Bool.and_false]
theorem index46 (x y : Int) (w : World) : (Instr.index 46 (.agg #[.int .i64 x, .int .i64 y]) (.int .i64 0)).run Try.prog w = .ok (.int .i64 x) w := by kernel_rfl

set_option maxHeartbeats 4000000 in
theorem refCold_any (a b : Int) (w : World) (h : isHp a b = true) :
    Calls Try.prog 44 #[.int .i64 a, .int .i64 b] w fun e w' => e = .returned (.bool (isCold a b)) ∧ Below w.heap.size w w' := by
  obtain ⟨a0, a1, b0, b1⟩ := isHp_yes h
  have hix := index46
  by_cases hab : a ≤ b
  · rw [isCold_le hab]
    have HP := Lib.hid (refPair_any (b - a) w (by omega) (by omega))
    obtain ⟨A, hA⟩ : ∃ A, coldA (b - a) = A := ⟨_, rfl⟩
    rw [hA] at HP ⊢
    have k1 : max a b = b := by omega
    have k2 : min a b = a := by omega
    have hw : IntKind.i64.wrap (b - a) = b - a := by simp [IntKind.wrap, IntKind.bits, IntKind.signed]; omega
    clear hA h
    go_enter Try.func44, Try.ntmps44
    go_wp2_with fail
    refine HP.out.mono ?_
    rintro e w1 ⟨rfl, hb⟩
    have HB := Lib.hid hb
    clear hb HP
    go_wp2
    go_ret
    exact ⟨rfl, HB.out⟩
  · rw [isCold_gt (by omega)]
    have HP := Lib.hid (refPair_any (a - b) w (by omega) (by omega))
    obtain ⟨A, hA⟩ : ∃ A, coldA (a - b) = A := ⟨_, rfl⟩
    rw [hA] at HP ⊢
    have k1 : max a b = a := by omega
    have k2 : min a b = b := by omega
    have hw : IntKind.i64.wrap (a - b) = a - b := by simp [IntKind.wrap, IntKind.bits, IntKind.signed]; omega
    clear hA h
    go_enter Try.func44, Try.ntmps44
    go_wp2_with fail
    refine HP.out.mono ?_
    rintro e w1 ⟨rfl, hb⟩
    have HB := Lib.hid hb
    clear hb HP
    go_wp2
    go_ret
    exact ⟨rfl, HB.out⟩

set_option maxHeartbeats 4000000 in
theorem heaps_any (a b : Int) (w : World) :
    Calls Try.prog 42 #[.int .i64 a, .int .i64 b] w fun e w' => e = .returned (.bool (isHp a b)) ∧ w' = w := by
  by_cases h0 : 0 ≤ a
  · by_cases h1 : 0 ≤ b
    · by_cases h2 : a ≤ 1000000
      · by_cases h3 : b ≤ 1000000
        · rw [isHp_mk ⟨h0, h2, h1, h3⟩]
          go_enter Try.func42, Try.ntmps42
          go_wp2
          go_ret
          exact ⟨rfl, rfl⟩
        · rw [isHp_no (fun h => h3 h.2.2.2)]
          go_enter Try.func42, Try.ntmps42
          go_wp2
          go_ret
          exact ⟨rfl, rfl⟩
      · rw [isHp_no (fun h => h2 h.2.1)]
        go_enter Try.func42, Try.ntmps42
        go_wp2
        go_ret
        exact ⟨rfl, rfl⟩
    · rw [isHp_no (fun h => h1 h.2.2.1)]
      go_enter Try.func42, Try.ntmps42
      go_wp2
      go_ret
      exact ⟨rfl, rfl⟩
  · rw [isHp_no (fun h => h0 h.1)]
    go_enter Try.func42, Try.ntmps42
    go_wp2
    go_ret
    exact ⟨rfl, rfl⟩
end Go.Proofs.Ytbdabpmpfciibaa
