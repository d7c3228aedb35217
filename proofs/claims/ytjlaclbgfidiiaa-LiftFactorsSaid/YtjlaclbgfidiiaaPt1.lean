/- The walks of order, gcd and fraction, and of the reference's. Conditions: the numbers are in range. -/
import Derived.Test.YtjlaclbgfidiiaaCalls
namespace Go.Proofs.Ytjlaclbgfidiiaa
open Go.RowKit
attribute [local go_sem] Oper.semAt_some

/-- How often q divides a number, at most k times. -/
def ordF (q : Nat) : Nat → Int → Nat
  | 0, _ => 0
  | k + 1, n => if n % (q : Int) = 0 then ordF q k (n / (q : Int)) + 1 else 0
theorem ordF_yes {q k : Nat} {n : Int} (h : (q : Int) ∣ n) : ordF q (k + 1) n = ordF q k (n / (q : Int)) + 1 := by
  show (if n % (q : Int) = 0 then _ else _) = _
  rw [if_pos (Int.emod_eq_zero_of_dvd h)]
theorem ordF_no {q k : Nat} {n : Int} (h : ¬ (q : Int) ∣ n) : ordF q (k + 1) n = 0 := by
  show (if n % (q : Int) = 0 then _ else _) = _
  rw [if_neg (fun e => h (Int.dvd_of_emod_eq_zero e))]
theorem ordF_le (q : Nat) : ∀ (k : Nat) (n : Int), ordF q k n ≤ k
  | 0, _ => Nat.le_refl _
  | k + 1, n => by
    have := ordF_le q k (n / (q : Int))
    show (if n % (q : Int) = 0 then _ else _) ≤ _
    split <;> omega
theorem part_small {q : Nat} (hq : 2 ≤ q) {m x : Int} (h : m = (q : Int) * x) (m0 : -1000000 ≤ m) (m1 : m ≤ 1000000) : -1000000 ≤ x ∧ x ≤ 1000000 ∧ 2 * x.natAbs ≤ m.natAbs := by
  have e : m.natAbs = q * x.natAbs := by rw [h, Int.natAbs_mul]; rfl
  have : 2 * x.natAbs ≤ q * x.natAbs := Nat.mul_le_mul_right _ hq
  omega

set_option maxHeartbeats 4000000 in
set_option maxRecDepth 100000 in
theorem order_any (q : Nat) (hq : 2 ≤ q) (q13 : q ≤ 13) (n : Int) (hn : n ≠ 0) (n0 : -1000000 ≤ n) (n1 : n ≤ 1000000) (w : World) :
    Calls Try.prog 84 #[.int .i64 n, .int .i64 (q : Int)] w fun e w' => e = .returned (.int .i64 (ordF q 40 n : Int)) ∧ w = w' := by
  obtain ⟨K, hK⟩ : ∃ K, ordF q 40 n = K := ⟨_, rfl⟩
  rw [hK]
  have hK40 : K ≤ 40 := by rw [← hK]; exact ordF_le q 40 n
  have HK := Lib.hid hK
  have HOK := Lib.hid (show n.natAbs < 2 ^ 40 by have : (2 : Nat) ^ 40 = 1099511627776 := by decide
                                                 omega)
  have qne : ¬ (q : Int) = 0 := by omega
  clear hK
  go_enter Try.func84, Try.ntmps84
  go_wp2
  go_loopg [0, 5] K (fun gk s0 s5 wr => ∃ (k : Nat) (m : Int), k + gk = K ∧ s5 = .int .i64 (k : Int) ∧ s0 = .int .i64 m ∧ m ≠ 0 ∧ -1000000 ≤ m ∧ m ≤ 1000000 ∧ ordF q (40 - k) m + k = K ∧ m.natAbs < 2 ^ (40 - k) ∧ wr = w)
  case atStart => exact ⟨0, n, by omega, rfl, rfl, hn, n0, n1, HK.out, HOK.out, rfl⟩
  case round =>
    obtain ⟨k, m, hk, rfl, rfl, hm, m0, m1, hord, hab, rfl⟩ := hrel
    have HKK := Lib.hid hk
    have HO := Lib.hid hord
    have HA := Lib.hid hab
    have hf : 40 - k ≠ 0 := by intro h; rw [h] at hab; simp at hab; exact hm hab
    obtain ⟨g, hg⟩ : ∃ g, 40 - k = g + 1 := ⟨40 - k - 1, by omega⟩
    rw [hg] at hord
    have k40 : k < 40 := by omega
    by_cases hd : (q : Int) ∣ m
    · have ho := ordF_yes (q := q) (k := g) hd
      rw [ho] at hord
      obtain ⟨x, hx⟩ := hd
      have ht : m.tdiv (q : Int) = x := by rw [hx, Int.mul_tdiv_cancel_left _ qne]
      have he : m / (q : Int) = x := by rw [hx, Int.mul_ediv_cancel_left _ qne]
      rw [he] at hord
      have hr : (m.tmod (q : Int) == 0) = true := by rw [Int.tmod_eq_zero_of_dvd ⟨x, hx⟩]; rfl
      have hx0 : x ≠ 0 := fun e => hm (by rw [hx, e, Int.mul_zero])
      obtain ⟨xa, xb, xc⟩ := part_small hq hx m0 m1
      have HXO := Lib.hid (show ordF q (40 - (k + 1)) x + (k + 1) = K by rw [show 40 - (k + 1) = g by omega]; omega)
      have HXA := Lib.hid (show x.natAbs < 2 ^ (40 - (k + 1)) by
        rw [show 40 - (k + 1) = g by omega]
        have h2 : m.natAbs < 2 ^ (g + 1) := by rw [← hg]; exact hab
        rw [Nat.pow_succ] at h2
        omega)
      have t0 := Int.tmod_lt_of_pos m (show (0 : Int) < (q : Int) by omega)
      have t1 := Int.lt_tmod_of_pos m (show (0 : Int) < (q : Int) by omega)
      clear hk hord hab hg ho hx he hf xc
      go_wp2
      go_roundg (K - k - 1)
      case rel => exact ⟨k + 1, x, by have := HKK.out; have := HXO.out; omega, by go_num, rfl, hx0, xa, xb, HXO.out, HXA.out, rfl⟩
      case measure => have := HKK.out; have := HXO.out; omega
    · have ho := ordF_no (q := q) (k := g) hd
      rw [ho] at hord
      have hr : (m.tmod (q : Int) == 0) = false := by
        rw [beq_eq_false_iff_ne]
        exact fun h => hd (Int.dvd_of_tmod_eq_zero h)
      have HF := Lib.hid (show k = K by omega)
      have t0 := Int.tmod_lt_of_pos m (show (0 : Int) < (q : Int) by omega)
      have t1 := Int.lt_tmod_of_pos m (show (0 : Int) < (q : Int) by omega)
      clear hk hord hab hg ho hd hf
      go_wp2
      go_ret
      exact ⟨ret_int (by rw [HF.out]), rfl⟩

set_option maxHeartbeats 4000000 in
set_option maxRecDepth 100000 in
theorem orderR_any (q : Nat) (hq : 2 ≤ q) (q13 : q ≤ 13) (n : Int) (hn : n ≠ 0) (n0 : -1000000 ≤ n) (n1 : n ≤ 1000000) (w : World) :
    Calls Try.prog 65 #[.int .i64 n, .int .i64 (q : Int)] w fun e w' => e = .returned (.int .i64 (ordF q 40 n : Int)) ∧ w = w' := by
  obtain ⟨K, hK⟩ : ∃ K, ordF q 40 n = K := ⟨_, rfl⟩
  rw [hK]
  have hK40 : K ≤ 40 := by rw [← hK]; exact ordF_le q 40 n
  have HK := Lib.hid hK
  have HOK := Lib.hid (show n.natAbs < 2 ^ 40 by have : (2 : Nat) ^ 40 = 1099511627776 := by decide
                                                 omega)
  have qne : ¬ (q : Int) = 0 := by omega
  clear hK
  go_enter Try.func65, Try.ntmps65
  go_wp2
  go_loopg [0, 5] K (fun gk s0 s5 wr => ∃ (k : Nat) (m : Int), k + gk = K ∧ s5 = .int .i64 (k : Int) ∧ s0 = .int .i64 m ∧ m ≠ 0 ∧ -1000000 ≤ m ∧ m ≤ 1000000 ∧ ordF q (40 - k) m + k = K ∧ m.natAbs < 2 ^ (40 - k) ∧ wr = w)
  case atStart => exact ⟨0, n, by omega, rfl, rfl, hn, n0, n1, HK.out, HOK.out, rfl⟩
  case round =>
    obtain ⟨k, m, hk, rfl, rfl, hm, m0, m1, hord, hab, rfl⟩ := hrel
    have HKK := Lib.hid hk
    have HO := Lib.hid hord
    have HA := Lib.hid hab
    have hf : 40 - k ≠ 0 := by intro h; rw [h] at hab; simp at hab; exact hm hab
    obtain ⟨g, hg⟩ : ∃ g, 40 - k = g + 1 := ⟨40 - k - 1, by omega⟩
    rw [hg] at hord
    have k40 : k < 40 := by omega
    by_cases hd : (q : Int) ∣ m
    · have ho := ordF_yes (q := q) (k := g) hd
      rw [ho] at hord
      obtain ⟨x, hx⟩ := hd
      have ht : m.tdiv (q : Int) = x := by rw [hx, Int.mul_tdiv_cancel_left _ qne]
      have he : m / (q : Int) = x := by rw [hx, Int.mul_ediv_cancel_left _ qne]
      rw [he] at hord
      have hr : (m.tmod (q : Int) == 0) = true := by rw [Int.tmod_eq_zero_of_dvd ⟨x, hx⟩]; rfl
      have hx0 : x ≠ 0 := fun e => hm (by rw [hx, e, Int.mul_zero])
      obtain ⟨xa, xb, xc⟩ := part_small hq hx m0 m1
      have HXO := Lib.hid (show ordF q (40 - (k + 1)) x + (k + 1) = K by rw [show 40 - (k + 1) = g by omega]; omega)
      have HXA := Lib.hid (show x.natAbs < 2 ^ (40 - (k + 1)) by
        rw [show 40 - (k + 1) = g by omega]
        have h2 : m.natAbs < 2 ^ (g + 1) := by rw [← hg]; exact hab
        rw [Nat.pow_succ] at h2
        omega)
      have t0 := Int.tmod_lt_of_pos m (show (0 : Int) < (q : Int) by omega)
      have t1 := Int.lt_tmod_of_pos m (show (0 : Int) < (q : Int) by omega)
      clear hk hord hab hg ho hx he hf xc
      go_wp2
      go_roundg (K - k - 1)
      case rel => exact ⟨k + 1, x, by have := HKK.out; have := HXO.out; omega, by go_num, rfl, hx0, xa, xb, HXO.out, HXA.out, rfl⟩
      case measure => have := HKK.out; have := HXO.out; omega
    · have ho := ordF_no (q := q) (k := g) hd
      rw [ho] at hord
      have hr : (m.tmod (q : Int) == 0) = false := by
        rw [beq_eq_false_iff_ne]
        exact fun h => hd (Int.dvd_of_tmod_eq_zero h)
      have HF := Lib.hid (show k = K by omega)
      have t0 := Int.tmod_lt_of_pos m (show (0 : Int) < (q : Int) by omega)
      have t1 := Int.lt_tmod_of_pos m (show (0 : Int) < (q : Int) by omega)
      clear hk hord hab hg ho hd hf
      go_wp2
      go_ret
      exact ⟨ret_int (by rw [HF.out]), rfl⟩

set_option maxHeartbeats 1000000 in
theorem gcdL_any (a b : Nat) (ha : a ≤ 1000000000000000000) (hb : b ≤ 1000000000000000000) (w : World) :
    Calls Try.prog 92 #[.int .i64 (a : Int), .int .i64 (b : Int)] w fun e w' => e = .returned (.int .i64 ((Nat.gcd a b : Nat) : Int)) ∧ ∃ q, w' = w.drewN q := by
  obtain ⟨g, hg⟩ : ∃ g, Nat.gcd a b = g := ⟨_, rfl⟩
  rw [hg]
  have HG := Lib.hid hg
  clear hg
  go_enter Try.func92, Try.ntmps92
  go_wp2
  go_loopg [0, 1] b (fun gk s0 s1 wr => ∃ (x y q : Nat), x ≤ 1000000000000000000 ∧ y ≤ 1000000000000000000 ∧ y = gk ∧ Nat.gcd x y = g ∧ s0 = .int .i64 (x : Int) ∧ s1 = .int .i64 (y : Int) ∧ wr = w.drewN q)
  case atStart => exact ⟨a, b, 0, ha, hb, rfl, HG.out, rfl, rfl, rfl⟩
  case round =>
    obtain ⟨x, y, q, hx, hy, hyk, hxy, rfl, rfl, rfl⟩ := hrel
    have HXY := Lib.hid hxy
    have HYK := Lib.hid hyk
    clear hxy hyk
    by_cases h : y = 0
    · subst h
      have hle : ¬ (0 : Int) < ((0 : Nat) : Int) := by omega
      have e : x = g := by rw [← HXY.out, Nat.gcd_zero_right]
      subst e
      go_wp2
      go_ret
      exact ⟨rfl, q, rfl⟩
    · have hlt : (0 : Int) < (y : Int) := by omega
      have hne : ¬ (y : Int) = 0 := by omega
      have x0 : (0 : Int) ≤ (x : Int) := by omega
      clear h
      go_wp2
      go_quiet (fail)
      go_wp2
      go_roundg (x % y)
      case rel => exact ⟨y, x % y, q + nq, hy, by have := Nat.mod_lt x (show 0 < y by omega); omega, rfl, by rw [← HXY.out, Nat.gcd_comm x y, Nat.gcd_rec y x, Nat.gcd_comm], rfl, by go_num, by rw [World.drewN_drewN]⟩
      case measure => have := Nat.mod_lt x (show 0 < y by omega); have := HYK.out; omega

end Go.Proofs.Ytjlaclbgfidiiaa
