/- The walks of turns and points and of the reference's Sign and Points. Conditions as stated in each theorem. -/
import Derived.Test.YtopfcppmbkidgaaBase
import Derived.Test.YtopfcppmbkidgaaNum
namespace Go.Proofs.Ytopfcppmbkidgaa
open Go.RowKit
attribute [local go_sem] Oper.semAt_some

/-- The sign of an order: row i, then all rows. -/
def trw (a n i : Nat) : Nat → Int | 0 => 1 | j + 1 => if a * i % n < a * j % n then -trw a n i j else trw a n i j
def sgn (a n : Nat) : Nat → Int | 0 => 1 | i + 1 => sgn a n i * trw a n i i
theorem trw_cases (a n i : Nat) : ∀ j, trw a n i j = 1 ∨ trw a n i j = -1
  | 0 => .inl rfl
  | j + 1 => by unfold trw; rcases trw_cases a n i j with h | h <;> rw [h] <;> split <;> simp
theorem sgn_cases (a n : Nat) : ∀ i, sgn a n i = 1 ∨ sgn a n i = -1
  | 0 => .inl rfl
  | i + 1 => by unfold sgn; rcases sgn_cases a n i with h | h <;> rcases trw_cases a n i i with k | k <;> rw [h, k] <;> simp
theorem sgn_mul2 {x y : Int} (hx : x = 1 ∨ x = -1) (hy : y = 1 ∨ y = -1) : x * y = 1 ∨ x * y = -1 := by rcases hx with rfl | rfl <;> rcases hy with rfl | rfl <;> simp

set_option maxHeartbeats 4000000 in
theorem turns_any (a n : Nat) (hn : n ≤ 200) (ha : a ≤ 200) (w : World) :
    Calls Try.prog 78 #[.int .i64 (a : Int), .int .i64 (n : Int)] w fun e w' => e = .returned (.int .i64 (sgn a n n)) ∧ Below w.heap.size w w' := by
  have HB := Lib.hid (Below.refl w.heap.size w)
  go_enter Try.func78, Try.ntmps78
  go_wp2
  go_loopg [5, 9] n (fun gk s5 s9 wr => ∃ (i q : Nat), i + gk = n ∧ s9 = .int .i64 (i : Int) ∧ s5 = .int .i64 (sgn a n i) ∧ wr = w.drewN q)
  case atStart => exact ⟨0, 0, by omega, rfl, rfl, rfl⟩
  case round =>
    obtain ⟨i, q, hig, rfl, rfl, rfl⟩ := hrel
    obtain ⟨s, hs⟩ : ∃ s, sgn a n i = s := ⟨_, rfl⟩
    have hsc : s = 1 ∨ s = -1 := hs ▸ sgn_cases a n i
    have HS := Lib.hid hs
    have HSC := Lib.hid hsc
    have HK := Lib.hid hig
    rw [hs]
    clear hs hsc
    by_cases hin : i < n
    · have l1 : (i : Int) < (n : Int) := by omega
      have n0 : (0 : Int) < (n : Int) := by omega
      have nne : ¬ (n : Int) = 0 := by omega
      have mi0 : 0 ≤ (a : Int) * i := Int.mul_nonneg (by omega) (by omega)
      have mi1 : (a : Int) * i ≤ 40000 := by have := Int.mul_le_mul (show (a : Int) ≤ 200 by omega) (show (i : Int) ≤ 200 by omega) (by omega) (by decide); omega
      have ei : (a : Int) * i % n = ((a * i % n : Nat) : Int) := by rw [Int.natCast_emod, Int.natCast_mul]
      obtain ⟨x, hx⟩ : ∃ x, a * i % n = x := ⟨_, rfl⟩
      have HX := Lib.hid hx
      rw [hx] at ei
      clear hx
      go_wp2
      go_loopg [5, 13] i (fun gk2 s5 s13 wr => ∃ (j q2 : Nat), j + gk2 = i ∧ s13 = .int .i64 (j : Int) ∧ s5 = .int .i64 (s * trw a n i j) ∧ wr = w.drewN q2)
      case atStart => exact ⟨0, q, by omega, rfl, by rw [trw, Int.mul_one], rfl⟩
      case round =>
        obtain ⟨j, q2, hjg, rfl, rfl, rfl⟩ := hrel
        have HK2 := Lib.hid hjg
        have HT : RowKit.Hid (trw a n i (j + 1) = if a * i % n < a * j % n then -trw a n i j else trw a n i j) := Lib.hid rfl
        obtain ⟨t, ht⟩ : ∃ t, trw a n i j = t := ⟨_, rfl⟩
        have htc : t = 1 ∨ t = -1 := ht ▸ trw_cases a n i j
        have hpc := sgn_mul2 HSC.out htc
        rw [ht, HX.out] at HT
        rw [ht]
        have HTT := Lib.hid ht
        obtain ⟨z, hz⟩ : ∃ z, s * t = z := ⟨_, rfl⟩
        rw [hz] at hpc ⊢
        have HZ := Lib.hid hz
        have z0 : -1 ≤ z := by omega
        have z1 : z ≤ 1 := by omega
        clear ht htc hz hpc
        by_cases hji : j < i
        · have l2 : (j : Int) < (i : Int) := by omega
          have mj0 : 0 ≤ (a : Int) * j := Int.mul_nonneg (by omega) (by omega)
          have mj1 : (a : Int) * j ≤ 40000 := by have := Int.mul_le_mul (show (a : Int) ≤ 200 by omega) (show (j : Int) ≤ 200 by omega) (by omega) (by decide); omega
          have ej : (a : Int) * j % n = ((a * j % n : Nat) : Int) := by rw [Int.natCast_emod, Int.natCast_mul]
          obtain ⟨y, hy⟩ : ∃ y, a * j % n = y := ⟨_, rfl⟩
          rw [hy] at ej HT
          clear hy hjg hig
          by_cases hxy : x < y
          · have l3 : (x : Int) < (y : Int) := by omega
            rw [if_pos hxy] at HT
            clear hxy
            go_wp2
            go_quiet (fail)
            go_wp2
            go_roundg (gk - 1)
            case rel => exact ⟨j + 1, _, by have := HK2.out; omega, by go_num, by rw [HT.out, ← HZ.out, Int.mul_neg], by first | rfl | rw [World.drewN_drewN]⟩
            case measure => have := HK2.out; omega
          · have l3 : ¬ (x : Int) < (y : Int) := by omega
            rw [if_neg hxy] at HT
            clear hxy
            go_wp2
            go_quiet (fail)
            go_wp2
            go_roundg (gk - 1)
            case rel => exact ⟨j + 1, _, by have := HK2.out; omega, by go_num, by rw [HT.out, ← HZ.out], by first | rfl | rw [World.drewN_drewN]⟩
            case measure => have := HK2.out; omega
        · have l2 : decide ((j : Int) < (i : Int)) = false := decide_eq_false (by omega)
          have HE := Lib.hid (show j = i by omega)
          clear hjg hig
          go_wp2
          go_roundg (n - i - 1)
          case rel => exact ⟨i + 1, q2, by omega, by go_num, by rw [sgn, HS.out, ← HZ.out, ← HTT.out, HE.out], rfl⟩
          case measure => have := HK.out; omega
    · have l1 : decide ((i : Int) < (n : Int)) = false := decide_eq_false (by omega)
      have HE := Lib.hid (show i = n by omega)
      clear hig
      go_wp2
      go_ret
      exact ⟨ret_int (by rw [← HS.out, HE.out]), below_drewN HB.out _⟩

set_option maxHeartbeats 4000000 in
theorem signR_any (a n : Nat) (hn : n ≤ 200) (ha : a ≤ 200) (w : World) :
    Calls Try.prog 50 #[.int .i64 (a : Int), .int .i64 (n : Int)] w fun e w' => e = .returned (.int .i64 (sgn a n n)) ∧ Below w.heap.size w w' := by
  have HB := Lib.hid (Below.refl w.heap.size w)
  go_enter Try.func50, Try.ntmps50
  go_wp2
  go_loopg [5, 9] n (fun gk s5 s9 wr => ∃ (i q : Nat), i + gk = n ∧ s9 = .int .i64 (i : Int) ∧ s5 = .int .i64 (sgn a n i) ∧ wr = w.drewN q)
  case atStart => exact ⟨0, 0, by omega, rfl, rfl, rfl⟩
  case round =>
    obtain ⟨i, q, hig, rfl, rfl, rfl⟩ := hrel
    obtain ⟨s, hs⟩ : ∃ s, sgn a n i = s := ⟨_, rfl⟩
    have hsc : s = 1 ∨ s = -1 := hs ▸ sgn_cases a n i
    have HS := Lib.hid hs
    have HSC := Lib.hid hsc
    have HK := Lib.hid hig
    rw [hs]
    clear hs hsc
    by_cases hin : i < n
    · have l1 : (i : Int) < (n : Int) := by omega
      have n0 : (0 : Int) < (n : Int) := by omega
      have nne : ¬ (n : Int) = 0 := by omega
      have mi0 : 0 ≤ (a : Int) * i := Int.mul_nonneg (by omega) (by omega)
      have mi1 : (a : Int) * i ≤ 40000 := by have := Int.mul_le_mul (show (a : Int) ≤ 200 by omega) (show (i : Int) ≤ 200 by omega) (by omega) (by decide); omega
      have ei : (a : Int) * i % n = ((a * i % n : Nat) : Int) := by rw [Int.natCast_emod, Int.natCast_mul]
      obtain ⟨x, hx⟩ : ∃ x, a * i % n = x := ⟨_, rfl⟩
      have HX := Lib.hid hx
      rw [hx] at ei
      clear hx
      go_wp2
      go_loopg [5, 13] i (fun gk2 s5 s13 wr => ∃ (j q2 : Nat), j + gk2 = i ∧ s13 = .int .i64 (j : Int) ∧ s5 = .int .i64 (s * trw a n i j) ∧ wr = w.drewN q2)
      case atStart => exact ⟨0, q, by omega, rfl, by rw [trw, Int.mul_one], rfl⟩
      case round =>
        obtain ⟨j, q2, hjg, rfl, rfl, rfl⟩ := hrel
        have HK2 := Lib.hid hjg
        have HT : RowKit.Hid (trw a n i (j + 1) = if a * i % n < a * j % n then -trw a n i j else trw a n i j) := Lib.hid rfl
        obtain ⟨t, ht⟩ : ∃ t, trw a n i j = t := ⟨_, rfl⟩
        have htc : t = 1 ∨ t = -1 := ht ▸ trw_cases a n i j
        have hpc := sgn_mul2 HSC.out htc
        rw [ht, HX.out] at HT
        rw [ht]
        have HTT := Lib.hid ht
        obtain ⟨z, hz⟩ : ∃ z, s * t = z := ⟨_, rfl⟩
        rw [hz] at hpc ⊢
        have HZ := Lib.hid hz
        have z0 : -1 ≤ z := by omega
        have z1 : z ≤ 1 := by omega
        clear ht htc hz hpc
        by_cases hji : j < i
        · have l2 : (j : Int) < (i : Int) := by omega
          have mj0 : 0 ≤ (a : Int) * j := Int.mul_nonneg (by omega) (by omega)
          have mj1 : (a : Int) * j ≤ 40000 := by have := Int.mul_le_mul (show (a : Int) ≤ 200 by omega) (show (j : Int) ≤ 200 by omega) (by omega) (by decide); omega
          have ej : (a : Int) * j % n = ((a * j % n : Nat) : Int) := by rw [Int.natCast_emod, Int.natCast_mul]
          obtain ⟨y, hy⟩ : ∃ y, a * j % n = y := ⟨_, rfl⟩
          rw [hy] at ej HT
          clear hy hjg hig
          by_cases hxy : x < y
          · have l3 : (x : Int) < (y : Int) := by omega
            rw [if_pos hxy] at HT
            clear hxy
            go_wp2
            go_quiet (fail)
            go_wp2
            go_roundg (gk - 1)
            case rel => exact ⟨j + 1, _, by have := HK2.out; omega, by go_num, by rw [HT.out, ← HZ.out, Int.mul_neg], by first | rfl | rw [World.drewN_drewN]⟩
            case measure => have := HK2.out; omega
          · have l3 : ¬ (x : Int) < (y : Int) := by omega
            rw [if_neg hxy] at HT
            clear hxy
            go_wp2
            go_quiet (fail)
            go_wp2
            go_roundg (gk - 1)
            case rel => exact ⟨j + 1, _, by have := HK2.out; omega, by go_num, by rw [HT.out, ← HZ.out], by first | rfl | rw [World.drewN_drewN]⟩
            case measure => have := HK2.out; omega
        · have l2 : decide ((j : Int) < (i : Int)) = false := decide_eq_false (by omega)
          have HE := Lib.hid (show j = i by omega)
          clear hjg hig
          go_wp2
          go_roundg (n - i - 1)
          case rel => exact ⟨i + 1, q2, by omega, by go_num, by rw [sgn, HS.out, ← HZ.out, ← HTT.out, HE.out], rfl⟩
          case measure => have := HK.out; omega
    · have l1 : decide ((i : Int) < (n : Int)) = false := decide_eq_false (by omega)
      have HE := Lib.hid (show i = n by omega)
      clear hig
      go_wp2
      go_ret
      exact ⟨ret_int (by rw [← HS.out, HE.out]), below_drewN HB.out _⟩
end Go.Proofs.Ytopfcppmbkidgaa
