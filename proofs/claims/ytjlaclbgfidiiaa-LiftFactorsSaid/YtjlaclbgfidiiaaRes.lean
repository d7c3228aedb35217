/- The walks of residue, validPrime, valid, power, and of the reference's Prime, Power and Poly. Conditions: the slices lie in memory. -/
import Derived.Test.YtjlaclbgfidiiaaBase
namespace Go.Proofs.Ytjlaclbgfidiiaa
open Go.RowKit
attribute [local go_sem] Oper.semAt_some

theorem residue_any (n m : Int) (w : World) (hm : 0 < m) (hm2 : m ≤ 1000000) (h1 : -1000000000000000 ≤ n) (h2 : n ≤ 1000000000000000) :
    Calls Try.prog 80 #[.int .i64 n, .int .i64 m] w fun e w' => e = .returned (.int .i64 (n % m)) ∧ w = w' := by
  have hr := tmod_res2 (n := n) hm
  have b1 := Int.tmod_lt_of_pos n hm
  have b2 := Int.lt_tmod_of_pos n hm
  have hne : ¬ m = 0 := by omega
  have HR := Lib.hid hr
  clear hr
  go_enter Try.func80, Try.ntmps80
  go_wp2
  go_ret
  exact ⟨ret_int HR.out, rfl⟩

theorem validPrime_any (p : Int) (w : World) : Calls Try.prog 62 #[.int .i64 p] w fun e w' => e = .returned (.bool (isPr p)) ∧ w = w' := by
  obtain ⟨B, hB⟩ : ∃ B, isPr p = B := ⟨_, rfl⟩
  rw [hB]
  by_cases h2 : p = 2
  · subst h2
    obtain rfl : B = true := by rw [← hB]; decide
    clear hB
    go_enter Try.func62, Try.ntmps62
    go_wp2
    go_ret
    exact ⟨rfl, rfl⟩
  by_cases h3 : p = 3
  · subst h3
    obtain rfl : B = true := by rw [← hB]; decide
    clear hB
    go_enter Try.func62, Try.ntmps62
    go_wp2
    go_ret
    exact ⟨rfl, rfl⟩
  by_cases h5 : p = 5
  · subst h5
    obtain rfl : B = true := by rw [← hB]; decide
    clear hB
    go_enter Try.func62, Try.ntmps62
    go_wp2
    go_ret
    exact ⟨rfl, rfl⟩
  by_cases h7 : p = 7
  · subst h7
    obtain rfl : B = true := by rw [← hB]; decide
    clear hB
    go_enter Try.func62, Try.ntmps62
    go_wp2
    go_ret
    exact ⟨rfl, rfl⟩
  by_cases h11 : p = 11
  · subst h11
    obtain rfl : B = true := by rw [← hB]; decide
    clear hB
    go_enter Try.func62, Try.ntmps62
    go_wp2
    go_ret
    exact ⟨rfl, rfl⟩
  by_cases h13 : p = 13
  · subst h13
    obtain rfl : B = true := by rw [← hB]; decide
    clear hB
    go_enter Try.func62, Try.ntmps62
    go_wp2
    go_ret
    exact ⟨rfl, rfl⟩
  obtain rfl : B = false := by rw [← hB]; simp [isPr, h2, h3, h5, h7, h11, h13]
  clear hB
  go_enter Try.func62, Try.ntmps62
  go_wp2
  go_ret
  exact ⟨rfl, rfl⟩
theorem primeR_any (p : Int) (w : World) : Calls Try.prog 29 #[.int .i64 p] w fun e w' => e = .returned (.bool (isPr p)) ∧ w = w' := by
  obtain ⟨B, hB⟩ : ∃ B, isPr p = B := ⟨_, rfl⟩
  rw [hB]
  by_cases h2 : p = 2
  · subst h2
    obtain rfl : B = true := by rw [← hB]; decide
    clear hB
    go_enter Try.func29, Try.ntmps29
    go_wp2
    go_ret
    exact ⟨rfl, rfl⟩
  by_cases h3 : p = 3
  · subst h3
    obtain rfl : B = true := by rw [← hB]; decide
    clear hB
    go_enter Try.func29, Try.ntmps29
    go_wp2
    go_ret
    exact ⟨rfl, rfl⟩
  by_cases h5 : p = 5
  · subst h5
    obtain rfl : B = true := by rw [← hB]; decide
    clear hB
    go_enter Try.func29, Try.ntmps29
    go_wp2
    go_ret
    exact ⟨rfl, rfl⟩
  by_cases h7 : p = 7
  · subst h7
    obtain rfl : B = true := by rw [← hB]; decide
    clear hB
    go_enter Try.func29, Try.ntmps29
    go_wp2
    go_ret
    exact ⟨rfl, rfl⟩
  by_cases h11 : p = 11
  · subst h11
    obtain rfl : B = true := by rw [← hB]; decide
    clear hB
    go_enter Try.func29, Try.ntmps29
    go_wp2
    go_ret
    exact ⟨rfl, rfl⟩
  by_cases h13 : p = 13
  · subst h13
    obtain rfl : B = true := by rw [← hB]; decide
    clear hB
    go_enter Try.func29, Try.ntmps29
    go_wp2
    go_ret
    exact ⟨rfl, rfl⟩
  obtain rfl : B = false := by rw [← hB]; simp [isPr, h2, h3, h5, h7, h11, h13]
  clear hB
  go_enter Try.func29, Try.ntmps29
  go_wp2
  go_ret
  exact ⟨ret_bool (by simp [h2, h3, h5, h7, h11, h13]), rfl⟩

/-- p^k is a modulus. -/
def isPK (p k : Int) : Bool := isPr p && decide (1 ≤ k) && decide (k ≤ 14) && decide (p.toNat ^ k.toNat ≤ 20000)
theorem isPK_spec {p k : Int} (h : isPK p k = true) : ∃ q j : Nat, p = (q : Int) ∧ k = (j : Int) ∧ q ∈ [2, 3, 5, 7, 11, 13] ∧ 1 ≤ j ∧ j ≤ 14 ∧ q ^ j ≤ 20000 := by
  unfold isPK at h
  simp only [Bool.and_eq_true, decide_eq_true_eq] at h
  obtain ⟨⟨⟨h1, h2⟩, h3⟩, h4⟩ := h
  obtain ⟨q, rfl, hq⟩ := isPr_mem h1
  refine ⟨q, k.toNat, rfl, by omega, hq, by omega, by omega, ?_⟩
  simpa using h4
theorem pow_small {q j : Nat} (hq : 2 ≤ q) (h3 : q ^ j ≤ 20000) : j ≤ 14 := by
  apply Decidable.byContradiction
  intro h
  have a1 : 2 ^ 15 ≤ 2 ^ j := Nat.pow_le_pow_right (by omega) (by omega)
  have a2 : 2 ^ j ≤ q ^ j := Nat.pow_le_pow_left hq j
  have : (2 : Nat) ^ 15 = 32768 := by decide
  omega
theorem isPK_of {q j : Nat} (hq : q ∈ [2, 3, 5, 7, 11, 13]) (h1 : 1 ≤ j) (h3 : q ^ j ≤ 20000) : isPK (q : Int) (j : Int) = true := by
  have h2 : j ≤ 14 := by
    apply Decidable.byContradiction
    intro h
    have a1 : 2 ^ 15 ≤ 2 ^ j := Nat.pow_le_pow_right (by omega) (by omega)
    have a2 : 2 ^ j ≤ q ^ j := Nat.pow_le_pow_left (pr_bounds hq).1 j
    have : (2 : Nat) ^ 15 = 32768 := by decide
    omega
  unfold isPK
  rw [isPr_of hq]
  simp only [Bool.true_and, Bool.and_eq_true, decide_eq_true_eq]
  exact ⟨⟨by omega, by omega⟩, by simpa using h3⟩
theorem isPK_not {q k : Nat} (j : Nat) (hj : j ≤ k) (h : 20000 < q ^ j) (hq : 2 ≤ q) : isPK (q : Int) (k : Int) = false := by
  cases hh : isPK (q : Int) (k : Int) with
  | false => rfl
  | true =>
    obtain ⟨a, b, e1, e2, -, -, -, h4⟩ := isPK_spec hh
    obtain rfl : q = a := by omega
    obtain rfl : k = b := by omega
    have := Nat.pow_le_pow_right (n := q) (by omega) hj
    omega
/-- What power answers. -/
def pkN (p k : Int) : Nat := if isPK p k then p.toNat ^ k.toNat else 0
theorem pkN_yes {q j : Nat} (h : isPK (q : Int) (j : Int) = true) : pkN (q : Int) (j : Int) = q ^ j := by
  unfold pkN; rw [if_pos h]; simp
theorem pkN_no {p k : Int} (h : isPK p k = false) : pkN p k = 0 := by
  unfold pkN; rw [h]; rfl

set_option maxHeartbeats 2000000 in
set_option maxRecDepth 100000 in
theorem power_any (p k : Int) (w : World) : Calls Try.prog 53 #[.int .i64 p, .int .i64 k] w fun e w' => e = .returned (.tuple #[.int .i64 (pkN p k : Int), .bool (isPK p k)]) ∧ w = w' := by
  have HV := Lib.hid (fun w => validPrime_any p w)
  cases hp : isPr p with
  | false =>
    have h0 : isPK p k = false := by unfold isPK; rw [hp]; rfl
    rw [pkN_no h0, h0]
    rw [hp] at HV
    clear hp h0
    go_enter Try.func53, Try.ntmps53
    go_wp2_with fail
    refine (HV.out _).mono ?_
    rintro e w1 ⟨rfl, rfl⟩
    go_wp2
    go_ret2
    exact ⟨rfl, rfl⟩
  | true =>
    rw [hp] at HV
    by_cases hk : k < 1
    · have h0 : isPK p k = false := by unfold isPK; rw [decide_eq_false (show ¬ 1 ≤ k by omega)]; simp
      rw [pkN_no h0, h0]
      clear hp h0
      go_enter Try.func53, Try.ntmps53
      go_wp2_with fail
      refine (HV.out _).mono ?_
      rintro e w1 ⟨rfl, rfl⟩
      go_wp2
      go_ret2
      exact ⟨rfl, rfl⟩
    · obtain ⟨q, rfl, hq⟩ := isPr_mem hp
      obtain ⟨K, rfl⟩ : ∃ K : Nat, k = (K : Int) := ⟨k.toNat, by omega⟩
      obtain ⟨q1, q2⟩ := pr_bounds hq
      have HY := Lib.hid (fun h => pkN_yes (q := q) (j := K) h)
      have HN := Lib.hid (fun h => pkN_no (p := q) (k := K) h)
      have HO := Lib.hid (fun a b => isPK_of (j := K) hq a b)
      have HT := Lib.hid (fun j a b => isPK_not (q := q) (k := K) j a b q1)
      obtain ⟨P, hP⟩ : ∃ P, pkN (q : Int) (K : Int) = P := ⟨_, rfl⟩
      obtain ⟨B, hB⟩ : ∃ B, isPK (q : Int) (K : Int) = B := ⟨_, rfl⟩
      rw [hP] at HY HN ⊢
      rw [hB] at HY HN HO HT ⊢
      have HK1 := Lib.hid (show 1 ≤ K by omega)
      clear hP hB hp hq
      go_enter Try.func53, Try.ntmps53
      go_wp2_with fail
      refine (HV.out _).mono ?_
      rintro e w1 ⟨rfl, rfl⟩
      go_wp2
      go_loopg [6, 15] K (fun gk s6 s15 wr => ∃ j M : Nat, s15 = .int .i64 (j : Int) ∧ s6 = .int .i64 (M : Int) ∧ RowKit.Hid (M = q ^ j) ∧ j + gk = K ∧ M ≤ 20000 ∧ j ≤ 14 ∧ wr = w)
      case atStart => exact ⟨0, 1, rfl, rfl, Lib.hid (by simp), by omega, by omega, by omega, rfl⟩
      case round =>
        obtain ⟨j, M, rfl, rfl, HM, hj, hM, hj14, rfl⟩ := hrel
        have hmul : M * q ≤ 260000 := Nat.le_trans (Nat.mul_le_mul hM q2) (by decide)
        have HP : RowKit.Hid (M * q = q ^ (j + 1)) := Lib.hid (by rw [Nat.pow_succ, HM.out])
        obtain ⟨X, hX⟩ : ∃ X, M * q = X := ⟨_, rfl⟩
        have e0 : (M : Int) * (q : Int) = (X : Int) := by rw [← hX]; simp
        rw [hX] at hmul HP
        have HJ := Lib.hid hj
        clear hX
        by_cases hjk : j < K
        · have l1 : (j : Int) < (K : Int) := by omega
          by_cases hb : X ≤ 20000
          · have g1 : ¬ (20000 : Int) < (X : Int) := by omega
            clear hj
            go_wp2
            go_roundg (gk - 1)
            case rel => exact ⟨j + 1, X, by go_num, rfl, HP, by have := HJ.out; omega, hb, pow_small q1 (by rw [← HP.out]; exact hb), rfl⟩
            case measure => have := HJ.out; omega
          · have g1 : (20000 : Int) < (X : Int) := by omega
            have hbf : B = false := HT.out (j + 1) (by omega) (by rw [← HP.out]; omega)
            have hpf : P = 0 := HN.out hbf
            have HF := Lib.hid (And.intro hbf hpf)
            clear hbf hpf hj
            go_wp2
            go_ret2
            rw [HF.out.1, HF.out.2]
            exact ⟨rfl, rfl⟩
        · have l1 : ¬ (j : Int) < (K : Int) := by omega
          have hjK : j = K := by omega
          have hbt : B = true := HO.out HK1.out (by rw [← hjK, ← HM.out]; exact hM)
          have hpt : P = M := by rw [HY.out hbt, HM.out, hjK]
          have HF := Lib.hid (And.intro hbt hpt)
          clear hbt hpt hj hjK hjk
          go_wp2
          go_ret2
          rw [HF.out.1, HF.out.2]
          exact ⟨rfl, rfl⟩
end Go.Proofs.Ytjlaclbgfidiiaa
