/- The walks of points and of the reference's Points. Conditions as stated in each theorem. -/
import Derived.Test.YtopfcppmbkidgaaBase
import Derived.Test.YtopfcppmbkidgaaNum
namespace Go.Proofs.Ytopfcppmbkidgaa
open Go.RowKit
attribute [local go_sem] Oper.semAt_some

theorem S_le (q p : Nat) (hq : q ≤ 200) : ∀ k, k ≤ 100 → sm (fun x => q * x / p) k ≤ k * 20000
  | 0, _ => by simp [sm]
  | k + 1, hk => by
    have := S_le q p hq k (by omega)
    have h1 : q * (k + 1) / p ≤ q * (k + 1) := Nat.div_le_self _ _
    have h2 : q * (k + 1) ≤ 200 * 100 := Nat.mul_le_mul hq hk
    rw [sm]; omega

set_option maxHeartbeats 1000000 in
theorem points_any (p q : Nat) (hp : p % 2 = 1) (hp2 : p ≤ 200) (hq2 : q ≤ 200) (w : World) :
    Calls Try.prog 79 #[.int .i64 (p : Int), .int .i64 (q : Int)] w fun e w' => e = .returned (.int .i64 ((S q p : Nat) : Int)) ∧ w' = w := by
  unfold S
  go_enter Try.func79, Try.ntmps79
  go_wp2
  go_loopg [5, 6] (p / 2) (fun gk s5 s6 wr => ∃ k : Nat, k + gk = p / 2 ∧ s6 = .int .i64 ((k : Int) + 1) ∧ s5 = .int .i64 ((sm (fun x => q * x / p) k : Nat) : Int) ∧ wr = w)
  case atStart => exact ⟨0, by omega, rfl, rfl, rfl⟩
  case round =>
    obtain ⟨k, hk, rfl, rfl, rfl⟩ := hrel
    have HK := Lib.hid hk
    have hs := S_le q p hq2 k (by omega)
    have HS : RowKit.Hid (sm (fun x => q * x / p) (k + 1) = sm (fun x => q * x / p) k + q * (k + 1) / p) := Lib.hid rfl
    obtain ⟨s, hss⟩ : ∃ s, sm (fun x => q * x / p) k = s := ⟨_, rfl⟩
    rw [hss] at hs HS ⊢
    have HSS := Lib.hid hss
    clear hss
    by_cases hlt : k < p / 2
    · have l1 : 2 * ((k : Int) + 1) < (p : Int) := by omega
      have pne : ¬ (p : Int) = 0 := by omega
      have m0 : 0 ≤ (q : Int) * ((k : Int) + 1) := Int.mul_nonneg (by omega) (by omega)
      have m1 : (q : Int) * ((k : Int) + 1) ≤ 20000 := by have := Int.mul_le_mul (show (q : Int) ≤ 200 by omega) (show (k : Int) + 1 ≤ 100 by omega) (by omega) (by decide); omega
      have ed : (q : Int) * ((k : Int) + 1) / p = ((q * (k + 1) / p : Nat) : Int) := by rw [Int.natCast_ediv, Int.natCast_mul]; rfl
      obtain ⟨d, hd⟩ : ∃ d, q * (k + 1) / p = d := ⟨_, rfl⟩
      have hd2 : d ≤ 20000 := by
        have h1 : q * (k + 1) / p ≤ q * (k + 1) := Nat.div_le_self _ _
        have h2 : q * (k + 1) ≤ 200 * 100 := Nat.mul_le_mul hq2 (by omega)
        omega
      rw [hd] at ed HS
      have hw : IntKind.i64.wrap (p : Int) = p := IntWalk.i64_in _ (by omega)
      clear hd hk
      go_wp2
      go_roundg (gk - 1)
      case rel => exact ⟨k + 1, by have := HK.out; omega, by go_num, by rw [HS.out]; first | rfl | (rw [ed]; rfl) | (congr 1; omega), rfl⟩
      case measure => have := HK.out; omega
    · have l1 : decide (2 * ((k : Int) + 1) < (p : Int)) = false := decide_eq_false (by omega)
      have HE := Lib.hid (show k = p / 2 by omega)
      have b2 : (k : Int) ≤ 100 := by omega
      clear hk
      go_wp2
      go_ret
      exact ⟨ret_int (by rw [← HSS.out, HE.out]), rfl⟩

/-- How many below, column by column. -/
def col (p q x : Nat) : Nat → Nat := fun y => if p * y < q * x then 1 else 0
theorem col_le (p q x : Nat) : ∀ k, sm (col p q x) k ≤ k
  | 0 => by simp [sm]
  | k + 1 => by have := col_le p q x k; have : col p q x (k + 1) ≤ 1 := by unfold col; split <;> omega
                rw [sm]; omega
theorem cols_le (p q k : Nat) : ∀ i, sm (fun x => sm (col p q x) k) i ≤ i * k
  | 0 => by simp [sm]
  | i + 1 => by have := cols_le p q k i; have := col_le p q (i + 1) k; rw [sm, Nat.succ_mul]; omega

set_option maxHeartbeats 4000000 in
theorem pointsR_any (p q : Nat) (hp : p % 2 = 1) (hq : q % 2 = 1) (hp2 : p ≤ 200) (hq2 : q ≤ 200) (w : World) :
    Calls Try.prog 49 #[.int .i64 (p : Int), .int .i64 (q : Int)] w fun e w' => e = .returned (.int .i64 ((sm (fun x => sm (col p q x) (q / 2)) (p / 2) : Nat) : Int)) ∧ w' = w := by
  go_enter Try.func49, Try.ntmps49
  go_wp2
  go_loopg [5, 6] (p / 2) (fun gk s5 s6 wr => ∃ k : Nat, k + gk = p / 2 ∧ s6 = .int .i64 ((k : Int) + 1) ∧ s5 = .int .i64 ((sm (fun x => sm (col p q x) (q / 2)) k : Nat) : Int) ∧ wr = w)
  case atStart => exact ⟨0, by omega, rfl, rfl, rfl⟩
  case round =>
    obtain ⟨k, hk, rfl, rfl, rfl⟩ := hrel
    have HK := Lib.hid hk
    have hs := cols_le p q (q / 2) k
    have hs2 : k * (q / 2) ≤ 100 * 100 := Nat.mul_le_mul (by omega) (by omega)
    have HS : RowKit.Hid (sm (fun x => sm (col p q x) (q / 2)) (k + 1) = sm (fun x => sm (col p q x) (q / 2)) k + sm (col p q (k + 1)) (q / 2)) := Lib.hid rfl
    obtain ⟨s, hss⟩ : ∃ s, sm (fun x => sm (col p q x) (q / 2)) k = s := ⟨_, rfl⟩
    rw [hss] at hs HS ⊢
    have HSS := Lib.hid hss
    have hsb : s ≤ 10000 := by omega
    clear hss hs hs2
    by_cases hlt : k < p / 2
    · have l1 : 2 * ((k : Int) + 1) < (p : Int) := by omega
      have m0 : 0 ≤ (q : Int) * ((k : Int) + 1) := Int.mul_nonneg (by omega) (by omega)
      have m1 : (q : Int) * ((k : Int) + 1) ≤ 20000 := by have := Int.mul_le_mul (show (q : Int) ≤ 200 by omega) (show (k : Int) + 1 ≤ 100 by omega) (by omega) (by decide); omega
      obtain ⟨M, hM⟩ : ∃ M, (q : Int) * ((k : Int) + 1) = M := ⟨_, rfl⟩
      have HM := Lib.hid hM
      have HKL := Lib.hid hlt
      rw [hM] at m0 m1
      go_wp2
      go_loopg [5, 7] (q / 2) (fun gk s5 s7 wq => ∃ j : Nat, j + gk = q / 2 ∧ s7 = .int .i64 ((j : Int) + 1) ∧ s5 = .int .i64 ((s + sm (col p q (k + 1)) j : Nat) : Int) ∧ wq = wr)
      case atStart => exact ⟨0, by omega, rfl, rfl, rfl⟩
      case round =>
        obtain ⟨j, hj, rfl, rfl, rfl⟩ := hrel
        have HJ := Lib.hid hj
        have ht := col_le p q (k + 1) j
        have HT : RowKit.Hid (sm (col p q (k + 1)) (j + 1) = sm (col p q (k + 1)) j + if p * (j + 1) < q * (k + 1) then 1 else 0) := Lib.hid rfl
        obtain ⟨t, htt⟩ : ∃ t, sm (col p q (k + 1)) j = t := ⟨_, rfl⟩
        rw [htt] at ht HT ⊢
        have HTT := Lib.hid htt
        have ht2 : t ≤ 100 := by omega
        clear htt ht
        by_cases hlj : j < q / 2
        · have l2 : 2 * ((j : Int) + 1) < (q : Int) := by omega
          have n0 : 0 ≤ (p : Int) * ((j : Int) + 1) := Int.mul_nonneg (by omega) (by omega)
          have n1 : (p : Int) * ((j : Int) + 1) ≤ 20000 := by have := Int.mul_le_mul (show (p : Int) ≤ 200 by omega) (show (j : Int) + 1 ≤ 100 by omega) (by omega) (by decide); omega
          by_cases hc : p * (j + 1) < q * (k + 1)
          · rw [if_pos hc] at HT
            have l3 : (p : Int) * ((j : Int) + 1) < M := by
              have e1 : ((p * (j + 1) : Nat) : Int) = (p : Int) * ((j : Int) + 1) := by rw [Int.natCast_mul]; rfl
              have e2 : ((q * (k + 1) : Nat) : Int) = (q : Int) * ((k : Int) + 1) := by rw [Int.natCast_mul]; rfl
              rw [← HM.out, ← e1, ← e2]; omega
            clear hc hj hk hlt hlj
            go_wp2
            go_roundg (gk - 1)
            case rel => exact ⟨j + 1, by have := HJ.out; omega, by go_num, by rw [HT.out]; rfl, rfl⟩
            case measure => have := HJ.out; omega
          · rw [if_neg hc] at HT
            have l3 : ¬ (p : Int) * ((j : Int) + 1) < M := by
              have e1 : ((p * (j + 1) : Nat) : Int) = (p : Int) * ((j : Int) + 1) := by rw [Int.natCast_mul]; rfl
              have e2 : ((q * (k + 1) : Nat) : Int) = (q : Int) * ((k : Int) + 1) := by rw [Int.natCast_mul]; rfl
              rw [← HM.out, ← e1, ← e2]; omega
            clear hc hj hk hlt hlj
            go_wp2
            go_roundg (gk - 1)
            case rel => exact ⟨j + 1, by have := HJ.out; omega, by go_num, by rw [HT.out]; rfl, rfl⟩
            case measure => have := HJ.out; omega
        · have l2 : decide (2 * ((j : Int) + 1) < (q : Int)) = false := decide_eq_false (by omega)
          have HE := Lib.hid (show j = q / 2 by omega)
          have b2 : (j : Int) ≤ 100 := by omega
          clear hj hk
          go_wp2
          go_roundg (p / 2 - k - 1)
          case rel => exact ⟨k + 1, by have := HKL.out; omega, by go_num, by rw [HS.out, ← HTT.out, HE.out], rfl⟩
          case measure => have := HK.out; have := HKL.out; omega
    · have l1 : decide (2 * ((k : Int) + 1) < (p : Int)) = false := decide_eq_false (by omega)
      have HE := Lib.hid (show k = p / 2 by omega)
      have b2 : (k : Int) ≤ 100 := by omega
      clear hk
      go_wp2
      go_ret
      exact ⟨ret_int (by rw [← HSS.out, HE.out]), rfl⟩
end Go.Proofs.Ytopfcppmbkidgaa
