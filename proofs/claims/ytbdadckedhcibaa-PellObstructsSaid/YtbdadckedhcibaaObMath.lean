/- Plain numbers for the moduli that show that there is no solution: what pell.squares, pell.solvable, pell.Obstruct and the reference's three loops answer. No condition beyond those stated. -/
import Derived.Test.YtbdadckedhcibaaMath
namespace Go.Proofs.Ytbdadckedhcibaa

/-- One pair of the reference. -/
def chk (d n : Int) (m x y : Nat) : Bool := decide (((x : Int) * x - d * y * y - n) % m = 0)
/-- A row of it, of the first k. -/
def rowAny (d n : Int) (m x k : Nat) : Bool := (List.range k).any fun y => chk d n m x y
def allAny (d n : Int) (m k : Nat) : Bool := (List.range k).any fun x => rowAny d n m x m
def slv (d n : Int) (m : Nat) : Bool := allAny d n m m
theorem rowAny_succ (d n : Int) (m x k : Nat) : rowAny d n m x (k + 1) = (rowAny d n m x k || chk d n m x k) := by
  unfold rowAny
  rw [List.range_succ, List.any_append]
  simp
theorem allAny_succ (d n : Int) (m k : Nat) : allAny d n m (k + 1) = (allAny d n m k || rowAny d n m k m) := by
  unfold allAny
  rw [List.range_succ, List.any_append]
  simp
/-- Whether r is a square modulo m, of one of the first k. -/
def isq (m k r : Nat) : Bool := (List.range k).any fun x => decide (x * x % m = r)
theorem isq_succ (m k r : Nat) : isq m (k + 1) r = (isq m k r || decide (k * k % m = r)) := by
  unfold isq
  rw [List.range_succ, List.any_append]
  simp
def rsq (d n : Int) (m y : Nat) : Nat := ((d * y * y + n + 100 * m) % m).toNat
def colAny (d n : Int) (m k : Nat) : Bool := (List.range k).any fun y => isq m m (rsq d n m y)
theorem colAny_succ (d n : Int) (m k : Nat) : colAny d n m (k + 1) = (colAny d n m k || isq m m (rsq d n m k)) := by
  unfold colAny
  rw [List.range_succ, List.any_append]
  simp
theorem chk_eq (d n : Int) (m x y : Nat) (hm : 1 ≤ m) : chk d n m x y = decide (x * x % m = rsq d n m y) := by
  unfold chk rsq
  obtain ⟨T, hT⟩ : ∃ T, d * y * y + n = T := ⟨_, rfl⟩
  have h1 : (x : Int) * x - d * y * y - n = ((x : Int) * x - (T + 100 * m)) + m * 100 := by
    have : d * y * y = T - n := by omega
    rw [this]; omega
  rw [hT, h1, Int.add_mul_emod_self_left]
  have h2 : ((x : Int) * x - (T + 100 * m)) % m = 0 ↔ ((x : Int) * x) % m = (T + 100 * m) % m := (Int.emod_eq_emod_iff_emod_sub_eq_zero).symm
  have h3 : ((x : Int) * x) % m = ((x * x % m : Nat) : Int) := by push_cast; rfl
  have h4 : 0 ≤ (T + 100 * m) % m := Int.emod_nonneg _ (by omega)
  rw [decide_eq_decide, h2, h3]
  omega
theorem col_slv (d n : Int) (m : Nat) (hm : 1 ≤ m) : colAny d n m m = slv d n m := by
  rw [Bool.eq_iff_iff]
  unfold colAny slv allAny rowAny isq
  simp only [List.any_eq_true, List.mem_range, decide_eq_true_eq]
  constructor
  · rintro ⟨y, hy, x, hx, e⟩
    exact ⟨x, hx, y, hy, by rw [chk_eq d n m x y hm]; exact decide_eq_true e⟩
  · rintro ⟨x, hx, y, hy, e⟩
    rw [chk_eq d n m x y hm] at e
    exact ⟨y, hy, x, hx, of_decide_eq_true e⟩

/-- The least modulus from m on, of f moduli. -/
def obsF (d n : Int) : Nat → Nat → Int × Int
  | 0, _ => (0, 4)
  | f + 1, m => bif slv d n m then obsF d n f (m + 1) else ((m : Int), 0)
def obs (d n : Int) : Int × Int := obsF d n 99 2
theorem obsF_t {d n : Int} {f m : Nat} (h : slv d n m = true) : obsF d n (f + 1) m = obsF d n f (m + 1) := by
  show (bif slv d n m then _ else _) = _
  rw [h]; rfl
theorem obsF_f {d n : Int} {f m : Nat} (h : slv d n m = false) : obsF d n (f + 1) m = ((m : Int), 0) := by
  show (bif slv d n m then _ else _) = _
  rw [h]; rfl
end Go.Proofs.Ytbdadckedhcibaa
