/- The columns that are left, and sums modulo the word, plainly. No condition. -/
import Derived.Test.YtgfenponlkmfmaaOnes
namespace Go.Proofs.Ytgfenponlkmfmaa
open Go.RowKit

theorem wrap_eq {a b : Int} (h : a % 18446744073709551616 = b % 18446744073709551616) : IntKind.i64.wrap a = IntKind.i64.wrap b := by
  rw [IntKind.wrap_i64, IntKind.wrap_i64]
  omega
theorem wrap_mod (a : Int) : (IntKind.i64.wrap a) % 18446744073709551616 = a % 18446744073709551616 := by
  rw [IntKind.wrap_i64]
  omega
theorem wrap_add (a b : Int) : IntKind.i64.wrap (IntKind.i64.wrap a + IntKind.i64.wrap b) = IntKind.i64.wrap (a + b) := by
  apply wrap_eq
  rw [Int.add_emod, wrap_mod, wrap_mod, ← Int.add_emod]
theorem wrap_mul (a b : Int) : IntKind.i64.wrap (IntKind.i64.wrap a * IntKind.i64.wrap b) = IntKind.i64.wrap (a * b) := by
  apply wrap_eq
  rw [Int.mul_emod, wrap_mod, wrap_mod, ← Int.mul_emod]
theorem wrap_in {a : Int} (h : -9223372036854775808 ≤ a ∧ a ≤ 9223372036854775807) : IntKind.i64.wrap a = a := IntWalk.i64_in _ h
theorem wrap_wrap (a : Int) : IntKind.i64.wrap (IntKind.i64.wrap a) = IntKind.i64.wrap a := wrap_eq (wrap_mod a)
/-- A sum and a signed product. -/
theorem wrap_term (S s x D : Int) : IntKind.i64.wrap (IntKind.i64.wrap S + IntKind.i64.wrap (IntKind.i64.wrap (s * x) * IntKind.i64.wrap D)) = IntKind.i64.wrap (S + s * (x * D)) := by
  rw [wrap_mul, wrap_add, Int.mul_assoc]

theorem alt_sign : ∀ (s : Int) (cs : List Nat) (f : Nat → Int), alt s cs f = s * alt 1 cs f
  | s, [], f => by simp [alt]
  | s, c :: cs, f => by
    unfold alt
    rw [alt_sign (-s) cs f, alt_sign (-1) cs f]
    grind

def isF (t j : Nat) : Bool := t / 2 ^ j % 2 == 0
/-- The columns below n that are not taken. -/
def free (n t : Nat) : List Nat := (List.range n).filter (isF t)
/-- Those from j on. -/
def freeB (n t j : Nat) : List Nat := (List.range' j (n - j)).filter (isF t)
theorem freeB_zero (n t : Nat) : freeB n t 0 = free n t := by
  unfold freeB free
  rw [Nat.sub_zero, List.range_eq_range']
theorem freeB_end (n t : Nat) : freeB n t n = [] := by simp [freeB]
theorem freeB_yes {n t j : Nat} (hj : j < n) (h : t / 2 ^ j % 2 = 0) : freeB n t j = j :: freeB n t (j + 1) := by
  unfold freeB
  rw [show n - j = (n - (j + 1)) + 1 by omega, List.range'_succ, List.filter_cons]
  simp [isF, h]
theorem freeB_no {n t j : Nat} (hj : j < n) (h : t / 2 ^ j % 2 = 1) : freeB n t j = freeB n t (j + 1) := by
  unfold freeB
  rw [show n - j = (n - (j + 1)) + 1 by omega, List.range'_succ, List.filter_cons]
  simp [isF, h]
theorem bit_facts : ∀ t, t < 16 → ∀ j, j < 4 → t / 2 ^ j % 2 = 0 → (t ||| 2 ^ j) < 16 ∧ pc (t ||| 2 ^ j) = pc t + 1 ∧ ∀ k, k < 4 → isF (t ||| 2 ^ j) k = (isF t k && k != j) := by decide +kernel
theorem bit_below : ∀ n, n < 5 → ∀ t, t < 2 ^ n → ∀ j, j < n → (t ||| 2 ^ j) < 2 ^ n := by decide +kernel
theorem pc_le : ∀ n, n < 5 → ∀ t, t < 2 ^ n → pc t ≤ n := by decide +kernel
theorem pc_full : ∀ n, n < 5 → ∀ t, t < 2 ^ n → pc t = n → ∀ j, j < n → t / 2 ^ j % 2 = 1 := by decide +kernel
theorem free_or {n t j : Nat} (hn : n ≤ 4) (ht : t < 16) (hj : j < 4) (h : t / 2 ^ j % 2 = 0) : free n (t ||| 2 ^ j) = (free n t).filter fun d => d != j := by
  unfold free
  rw [List.filter_filter]
  apply List.filter_congr
  intro k hk
  rw [(bit_facts t ht j hj h).2.2 k (by have := List.mem_range.1 hk; omega), Bool.and_comm]
theorem free_zero (n : Nat) : free n 0 = List.range n := by
  unfold free
  apply List.filter_eq_self.2
  intro a _
  simp [isF]
/-- The value of minor, and its sum's terms. -/
def mnr (e : Nat → Nat → Int) (n t : Nat) : Int := lap e (n - pc t) (pc t) (free n t)
def trm (e : Nat → Nat → Int) (n t j : Nat) : Int := e (pc t) j * lap e (n - pc t - 1) (pc t + 1) ((free n t).filter fun d => d != j)
theorem mnr_sum {e : Nat → Nat → Int} {n t : Nat} (h : pc t < n) : mnr e n t = alt 1 (free n t) (trm e n t) := by
  unfold mnr
  rw [show n - pc t = (n - pc t - 1) + 1 by omega, lap]
  rfl
theorem mnr_one {e : Nat → Nat → Int} {n t : Nat} (h : pc t = n) : mnr e n t = 1 := by
  unfold mnr
  rw [h, Nat.sub_self]
  rfl
theorem trm_next {e : Nat → Nat → Int} {n t j : Nat} (hn : n ≤ 4) (ht : t < 16) (hj : j < n) (h : t / 2 ^ j % 2 = 0) : trm e n t j = e (pc t) j * mnr e n (t ||| 2 ^ j) := by
  unfold trm mnr
  rw [(bit_facts t ht j (by omega) h).2.1, free_or hn ht (by omega) h]
  rfl
theorem mnr_zero (e : Nat → Nat → Int) (n : Nat) : mnr e n 0 = det n e := by
  unfold mnr det
  rw [free_zero]
  rfl
end Go.Proofs.Ytgfenponlkmfmaa
