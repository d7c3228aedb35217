/- The walks of math/bits.Len64, math/bits.Len, pell.root, pell.validD, gherkinref01.Root, square and Valid: each returns what the plain function gives and leaves memory alone. Conditions as stated in each theorem (bounds on the argument). -/
import Derived.Test.YtbdadckedhcibaaRows
import Derived.Test.YtbdadckedhcibaaMath
import Derived.Test.YtbdadckedhcibaaIter
import Derived.Test.YtbdadckedhcibaaShelf
import Derived.WalkKit
import Derived.WalkSpells
import Derived.WalkLawsBesides
import Derived.Lib.Hide
namespace Go.Proofs.Ytbdadckedhcibaa
open Go.RowKit

theorem ret_int {k : IntKind} {a b : Int} (h : a = b) : Ending.returned (.int k a) = .returned (.int k b) := by rw [h]
theorem ret_bool {a b : Bool} (h : a = b) : Ending.returned (.bool a) = .returned (.bool b) := by rw [h]


theorem isRoot_of_F {n r : Int} (h0 : 0 ≤ n) (h1 : n ≤ 1000000000000000000) (h : IsRoot n r) : r = rootF n := h.unique (rootF_spec n h0 (by omega))

/-- The start of Newton's steps is not below the root. -/
theorem bitLen_lt : ∀ (f x : Nat), x < 2 ^ f → f ≤ 64 → x < 2 ^ Lib.bitLen x
  | 0, x, h, _ => by
    have : x = 0 := by simpa using h
    subst this; decide
  | f + 1, x, h, hf => by
    by_cases h0 : x = 0
    · subst h0; decide
    · have hx : x < 2 ^ 64 := Nat.lt_of_lt_of_le h (Nat.pow_le_pow_right (by omega) hf)
      rw [Lib.bitLen_half x h0 hx]
      have := bitLen_lt f (x / 2) (by rw [Nat.pow_succ] at h; omega) (by omega)
      rw [Nat.add_comm, Nat.pow_succ]
      omega

theorem start_ok (n : Int) (h0 : 1 ≤ n) (h1 : n ≤ 1000000000000000000) :
    ∃ s : Int, wrap64 (2 ^ ((Lib.bitLen n.toNat + 1) / 2)) = s ∧ 1 ≤ s ∧ s ≤ 2147483648 ∧ n < (s + 1) * (s + 1) := by
  have hlt := bitLen_lt 60 n.toNat (by have : (2:Nat)^60 = 1152921504606846976 := by decide
                                       omega) (by omega)
  have hle := Lib.bitLen_le n.toNat 60 (by omega) (by have : (2:Nat)^60 = 1152921504606846976 := by decide
                                                      omega)
  generalize Lib.bitLen n.toNat = b at hlt hle
  generalize hc : (b + 1) / 2 = c
  have h2 : b ≤ c + c := by omega
  have h3 : 2 ^ b ≤ 2 ^ (c + c) := Nat.pow_le_pow_right (by omega) h2
  rw [Nat.pow_add] at h3
  have h4 : n.toNat < 2 ^ c * 2 ^ c := Nat.lt_of_lt_of_le hlt h3
  have h5 : 2 ^ c ≤ 2 ^ 31 := Nat.pow_le_pow_right (by omega) (by omega)
  have h6 : 0 < 2 ^ c := Nat.two_pow_pos c
  have h7 : (2:Nat) ^ 31 = 2147483648 := by decide
  have e : ((2:Int) ^ c) = ((2 ^ c : Nat) : Int) := by simp
  rw [e]
  generalize (2:Nat) ^ c = t at h3 h4 h5 h6 e ⊢
  refine ⟨(t : Int), IntWalk.wrap64_in _ ⟨by omega, by omega⟩, by omega, by omega, ?_⟩
  have h8 : ((t : Int) + 1) * ((t : Int) + 1) = (t : Int) * t + 2 * t + 1 := by grind
  rw [h8, ← Int.natCast_mul]
  omega

set_option maxHeartbeats 400000 in
theorem root_any (n : Int) (w : World) (h0 : 1 ≤ n) (h1 : n ≤ 1000000000000000000) :
    Calls Try.prog 63 #[.int .i64 n] w fun e w' => e = .returned (.int .i64 (rootF n)) ∧ w = w' := by
  have hn0 : ((n : Int) == 0) = false := by simp; omega
  obtain ⟨s, hs, s0, s1, s2⟩ := start_ok n h0 h1
  have Hs := Lib.hid hs
  clear hs
  go_enter Try.func63, Try.ntmps63
  go_wp2_with fail
  refine (Try.bits_Len n w (by omega) (by omega)).mono ?_
  rintro e w' ⟨rfl, rfl⟩
  have hb0 : (0:Int) ≤ (Lib.bitLen n.toNat : Int) := by omega
  have hbl : (Lib.bitLen n.toNat : Int) ≤ 60 := by
    have e : (2:Nat) ^ 60 = 1152921504606846976 := by decide
    have := Lib.bitLen_le n.toNat 60 (by omega) (by omega)
    omega
  go_wp2
  rw [Hs.out]
  go_loop [3] (fun r => ∃ x : Int, 1 ≤ x ∧ x ≤ 2147483648 ∧ n < (x + 1) * (x + 1) ∧ r = .int .i64 x) (fun r => (intOf r).toNat)
  case atStart => exact ⟨s, s0, s1, s2, rfl⟩
  case round =>
    obtain ⟨x, hx0, hx1, hx2, rfl⟩ := hrel
    have hq0 : 0 ≤ n / x := Int.ediv_nonneg (by omega) (by omega)
    have hq1 : n / x ≤ n := Int.ediv_le_self _ (by omega)
    by_cases hc : x ≤ (x + n / x) / 2
    · have hR : x = rootF n := isRoot_of_F (by omega) h1 (newton_end n x hx0 hx2 hc)
      have HR := Lib.hid hR
      clear hR
      go_wp2
      go_ret
      exact ⟨ret_int HR.out, rfl⟩
    · have hlo := newton_lo n x hx0 h0
      have hpos := newton_pos n _ h0 (by omega) hlo
      go_wp2
      exact ⟨⟨_, hpos, by omega, hlo, rfl⟩, by simp only [intOf]; omega⟩

theorem halve (j : Nat) : (((2 ^ (j + 1) : Nat)) : Int) / 2 = ((2 ^ j : Nat) : Int) := by rw [Nat.pow_succ]; omega
def stepOf : Nat → Int
  | 0 => 0
  | j + 1 => ((2 ^ j : Nat) : Int)
theorem stepOf_half (j : Nat) : stepOf (j + 1) / 2 = stepOf j := by
  cases j with
  | zero => rfl
  | succ j => exact halve j
theorem stepOf_bd : ∀ j : Fin 32, 0 ≤ stepOf j.1 ∧ stepOf j.1 ≤ 1073741824 ∧ (j.1 ≠ 0 → 1 ≤ stepOf j.1) := by decide
theorem rootLoop_step (j : Nat) (r n : Int) : rootLoop (j + 1) r n = if (r + stepOf (j + 1)) * (r + stepOf (j + 1)) ≤ n then rootLoop j (r + stepOf (j + 1)) n else rootLoop j r n := rfl

set_option maxHeartbeats 400000 in
theorem refRoot_any (n : Int) (w : World) :
    Calls Try.prog 45 #[.int .i64 n] w fun e w' => e = .returned (.int .i64 (rootF n)) ∧ w = w' := by
  go_enter Try.func45, Try.ntmps45
  go_wp2
  go_loop [3, 4] (fun r s => ∃ (j : Nat) (x : Int), j ≤ 31 ∧ -1 ≤ x ∧ x ≤ 2147483646 ∧ (x + stepOf j + stepOf j ≤ 2147483647) ∧ rootLoop j x n = rootF n ∧ r = .int .i64 x ∧ s = .int .i64 (stepOf j)) (fun _ s => (intOf s).toNat)
  case atStart => exact ⟨31, -1, by omega, by omega, by omega, by decide, rfl, rfl, rfl⟩
  case round =>
    obtain ⟨j, x, hj, hx0, hx1, hxs, hr, rfl, rfl⟩ := hrel
    obtain ⟨b0, b1, b2⟩ := stepOf_bd ⟨j, by omega⟩
    simp only at b0 b1 b2
    cases j with
    | zero =>
      have e : stepOf 0 = 0 := rfl
      rw [e]
      go_wp2
      go_ret
      exact ⟨ret_int hr, rfl⟩
    | succ j =>
      have hh := stepOf_half j
      have hb2 := b2 (by omega)
      clear b2
      have hS := rootLoop_step j x n
      rw [hr] at hS
      have hsq : 0 ≤ (x + stepOf (j + 1)) * (x + stepOf (j + 1)) := sq_nonneg _
      have hsq2 : (x + stepOf (j + 1)) * (x + stepOf (j + 1)) ≤ 2147483647 * 2147483647 := sq_le (by omega) (by omega)
      have H1 := Lib.hid hh
      have H2 := Lib.hid hS
      clear hh hS hr
      by_cases hc : (x + stepOf (j + 1)) * (x + stepOf (j + 1)) ≤ n
      · go_wp2
        refine ⟨⟨j, x + stepOf (j + 1), by omega, by omega, by omega, ?_, ?_, rfl, by rw [H1.out]⟩, by simp only [intOf]; omega⟩
        · have := H1.out; omega
        · rw [H2.out, if_pos hc]
      · go_wp2
        refine ⟨⟨j, x, by omega, by omega, by omega, ?_, ?_, rfl, by rw [H1.out]⟩, by simp only [intOf]; omega⟩
        · have := H1.out; omega
        · rw [H2.out, if_neg hc]
end Go.Proofs.Ytbdadckedhcibaa
