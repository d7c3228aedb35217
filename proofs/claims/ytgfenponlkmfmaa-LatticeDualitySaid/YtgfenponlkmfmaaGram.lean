/- Determinants of inner products: volumes. No condition beyond those that each theorem names. -/
import Derived.Test.YtgfenponlkmfmaaMath
namespace Go.Proofs.Ytgfenponlkmfmaa

/-- The inner products of the rows. -/
def grm (n : Nat) (e : Nat → Nat → Int) : Nat → Nat → Int := fun i j => dot n (e i) (e j)
theorem dot_comm (n : Nat) (v u : Nat → Int) : dot n v u = dot n u v := by
  unfold dot
  exact sm_congr n fun k _ => Int.mul_comm _ _
theorem grm_comm (n : Nat) (e : Nat → Nat → Int) (i j : Nat) : grm n e i j = grm n e j i := dot_comm _ _ _
/-- The last of k + 1 places says i. -/
def pk (k i : Nat) : Nat → Nat := fun r => if r = k then i else r
/-- The determinant of the first k rows and row i, with the first k + 1. -/
def mix (G : Nat → Nat → Int) (k i : Nat) : Int := det (k + 1) fun r c => G (pk k i r) c
/-- The volume of the first k rows and row i. -/
def oth (G : Nat → Nat → Int) (k i : Nat) : Int := det (k + 1) fun r c => G (pk k i r) (pk k i c)

theorem jac1 (G : Nat → Nat → Int) (hs : ∀ i j, G i j = G j i) : det 2 G * det 0 G + mix G 0 1 * mix G 0 1 = det 1 G * oth G 0 1 := by
  have := hs 0 1
  have d0 : det 0 G = 1 := rfl
  simp [mix, oth, det2, det1, pk, d0]
  grind
theorem jac2 (G : Nat → Nat → Int) (hs : ∀ i j, G i j = G j i) : det 3 G * det 1 G + mix G 1 2 * mix G 1 2 = det 2 G * oth G 1 2 := by
  have h1 := hs 0 1
  have h2 := hs 0 2
  have h3 := hs 1 2
  simp [mix, oth, det2, det1, det3, pk]
  grind
theorem jac3 (G : Nat → Nat → Int) (hs : ∀ i j, G i j = G j i) : det 4 G * det 2 G + mix G 2 3 * mix G 2 3 = det 3 G * oth G 2 3 := by
  have h1 := hs 0 1
  have h2 := hs 0 2
  have h3 := hs 1 2
  have h4 := hs 0 3
  have h5 := hs 1 3
  have h6 := hs 2 3
  simp [mix, oth, det2, det3, det4, sub, skip, pk]
  grind

theorem dot4 (v u : Nat → Int) : dot 4 v u = v 0 * u 0 + v 1 * u 1 + v 2 * u 2 + v 3 * u 3 := by simp [dot, sm]
theorem had1 (e : Nat → Nat → Int) : det 1 (grm 4 e) * grm 4 e 1 1 - det 2 (grm 4 e) = grm 4 e 0 1 * grm 4 e 0 1 := by
  have := grm_comm 4 e 0 1
  simp [det1, det2]
  grind
theorem had2 (e : Nat → Nat → Int) : det 2 (grm 4 e) * grm 4 e 2 2 - det 3 (grm 4 e) = sm 4 fun p => (grm 4 e 1 2 * e 0 p - grm 4 e 0 2 * e 1 p) * (grm 4 e 1 2 * e 0 p - grm 4 e 0 2 * e 1 p) := by
  have h1 := grm_comm 4 e 0 1
  have h2 := grm_comm 4 e 0 2
  have h3 := grm_comm 4 e 1 2
  have k1 : grm 4 e 0 0 = e 0 0 * e 0 0 + e 0 1 * e 0 1 + e 0 2 * e 0 2 + e 0 3 * e 0 3 := dot4 _ _
  have k2 : grm 4 e 0 1 = e 0 0 * e 1 0 + e 0 1 * e 1 1 + e 0 2 * e 1 2 + e 0 3 * e 1 3 := dot4 _ _
  have k3 : grm 4 e 1 1 = e 1 0 * e 1 0 + e 1 1 * e 1 1 + e 1 2 * e 1 2 + e 1 3 * e 1 3 := dot4 _ _
  simp only [det2, det3, sm]
  generalize grm 4 e 0 2 = x at *
  generalize grm 4 e 1 2 = y at *
  generalize grm 4 e 2 2 = z at *
  rw [← h1, ← h2, ← h3, k1, k2, k3]
  grind
/-- The determinant of three rows in three of four columns. -/
def m3 (a b c : Nat → Int) (p q r : Nat) : Int := a p * (b q * c r - b r * c q) - a q * (b p * c r - b r * c p) + a r * (b p * c q - b q * c p)
def t3 (a b c x y z : Nat → Int) : Int := dot 4 a x * (dot 4 b y * dot 4 c z - dot 4 b z * dot 4 c y) - dot 4 a y * (dot 4 b x * dot 4 c z - dot 4 b z * dot 4 c x) + dot 4 a z * (dot 4 b x * dot 4 c y - dot 4 b y * dot 4 c x)
theorem cb3 (a b c x y z : Nat → Int) : t3 a b c x y z = m3 a b c 0 1 2 * m3 x y z 0 1 2 + m3 a b c 0 1 3 * m3 x y z 0 1 3 + m3 a b c 0 2 3 * m3 x y z 0 2 3 + m3 a b c 1 2 3 * m3 x y z 1 2 3 := by
  unfold t3
  simp only [dot4, m3]
  grind
theorem cb4 (a b c d x y z u : Nat → Int) :
    dot 4 a x * t3 b c d y z u - dot 4 a y * t3 b c d x z u + dot 4 a z * t3 b c d x y u - dot 4 a u * t3 b c d x y z =
    (a 0 * m3 b c d 1 2 3 - a 1 * m3 b c d 0 2 3 + a 2 * m3 b c d 0 1 3 - a 3 * m3 b c d 0 1 2) * (x 0 * m3 y z u 1 2 3 - x 1 * m3 y z u 0 2 3 + x 2 * m3 y z u 0 1 3 - x 3 * m3 y z u 0 1 2) := by
  simp only [cb3, dot4]
  generalize m3 b c d 1 2 3 = A0
  generalize m3 b c d 0 2 3 = A1
  generalize m3 b c d 0 1 3 = A2
  generalize m3 b c d 0 1 2 = A3
  simp only [m3]
  grind
/-- The square of the determinant. -/
theorem sq4 (e : Nat → Nat → Int) : det 4 (grm 4 e) = det 4 e * det 4 e := by
  have h := cb4 (e 0) (e 1) (e 2) (e 3) (e 0) (e 1) (e 2) (e 3)
  simp only [det4, det3, sub, skip]
  simp only [t3, m3] at h
  exact h
theorem sq3 (e : Nat → Nat → Int) : det 3 (grm 3 e) = det 3 e * det 3 e := by
  simp [det3, grm, dot, sm]
  grind
theorem sq2 (e : Nat → Nat → Int) : det 2 (grm 2 e) = det 2 e * det 2 e := by
  simp [det2, grm, dot, sm]
  grind

/-- The sum over all pairs of columns. -/
def pr6 (f : Nat → Nat → Int) : Int := f 0 1 + f 0 2 + f 0 3 + f 1 2 + f 1 3 + f 2 3
def wd (a b : Nat → Int) (p q : Nat) : Int := a p * b q - a q * b p
theorem lagr (a b c d : Nat → Int) : (pr6 fun p q => wd a b p q * wd c d p q) = dot 4 a c * dot 4 b d - dot 4 a d * dot 4 b c := by
  simp only [pr6, wd, dot4]
  grind
theorem pr6_pos (f : Nat → Nat → Int) : 0 ≤ pr6 fun p q => f p q * f p q := by
  have h := fun p q => (show 0 ≤ f p q * f p q by
    rcases Int.le_total 0 (f p q) with h | h
    · exact Int.mul_nonneg h h
    · exact Int.mul_nonneg_of_nonpos_of_nonpos h h)
  have := h 0 1; have := h 0 2; have := h 0 3; have := h 1 2; have := h 1 3; have := h 2 3
  simp only [pr6]
  omega
theorem sq_pos (x : Int) : 0 ≤ x * x := by
  rcases Int.le_total 0 x with h | h
  · exact Int.mul_nonneg h h
  · exact Int.mul_nonneg_of_nonpos_of_nonpos h h
theorem sq_exp (A B C : Nat → Nat → Int) (x y z : Int) : (pr6 fun p q => (x * A p q - y * B p q + z * C p q) * (x * A p q - y * B p q + z * C p q)) =
    x * x * (pr6 fun p q => A p q * A p q) + y * y * (pr6 fun p q => B p q * B p q) + z * z * (pr6 fun p q => C p q * C p q) - 2 * (x * y * (pr6 fun p q => A p q * B p q)) + 2 * (x * z * (pr6 fun p q => A p q * C p q)) - 2 * (y * z * (pr6 fun p q => B p q * C p q)) := by
  simp only [pr6]
  grind
theorem had3 (e : Nat → Nat → Int) : det 3 (grm 4 e) * grm 4 e 3 3 - det 4 (grm 4 e) =
    pr6 fun p q => (grm 4 e 0 3 * wd (e 1) (e 2) p q - grm 4 e 1 3 * wd (e 0) (e 2) p q + grm 4 e 2 3 * wd (e 0) (e 1) p q) * (grm 4 e 0 3 * wd (e 1) (e 2) p q - grm 4 e 1 3 * wd (e 0) (e 2) p q + grm 4 e 2 3 * wd (e 0) (e 1) p q) := by
  have h1 := grm_comm 4 e 0 1
  have h2 := grm_comm 4 e 0 2
  have h3 := grm_comm 4 e 1 2
  have h4 := grm_comm 4 e 0 3
  have h5 := grm_comm 4 e 1 3
  have h6 := grm_comm 4 e 2 3
  have l1 := lagr (e 1) (e 2) (e 1) (e 2)
  have l2 := lagr (e 0) (e 2) (e 0) (e 2)
  have l3 := lagr (e 0) (e 1) (e 0) (e 1)
  have l4 := lagr (e 1) (e 2) (e 0) (e 2)
  have l5 := lagr (e 1) (e 2) (e 0) (e 1)
  have l6 := lagr (e 0) (e 2) (e 0) (e 1)
  have d : ∀ i j, dot 4 (e i) (e j) = grm 4 e i j := fun _ _ => rfl
  rw [sq_exp, l1, l2, l3, l4, l5, l6]
  simp only [d, det3, det4, sub, skip]
  generalize grm 4 e = G at *
  simp
  rw [← h1, ← h2, ← h3, ← h4, ← h5, ← h6]
  grind
theorem vol_step (e : Nat → Nat → Int) (k : Nat) (h1 : k < 4) : det (k + 1) (grm 4 e) ≤ det k (grm 4 e) * grm 4 e k k := by
  match k, h1 with
  | 0, _ => rw [det1]; show _ ≤ 1 * _; omega
  | 1, _ => have := had1 e; have := sq_pos (grm 4 e 0 1); simp only [Nat.reduceAdd]; omega
  | 2, _ =>
    have h := had2 e
    have : 0 ≤ sm 4 fun p => (grm 4 e 1 2 * e 0 p - grm 4 e 0 2 * e 1 p) * (grm 4 e 1 2 * e 0 p - grm 4 e 0 2 * e 1 p) := by
      have q := fun p => sq_pos (grm 4 e 1 2 * e 0 p - grm 4 e 0 2 * e 1 p)
      have := q 0; have := q 1; have := q 2; have := q 3
      simp only [sm]
      omega
    simp only [Nat.reduceAdd]
    omega
  | 3, _ =>
    have h := had3 e
    have := pr6_pos fun p q => (grm 4 e 0 3 * wd (e 1) (e 2) p q - grm 4 e 1 3 * wd (e 0) (e 2) p q + grm 4 e 2 3 * wd (e 0) (e 1) p q)
    simp only [Nat.reduceAdd]
    omega
theorem grm_pos (n : Nat) (e : Nat → Nat → Int) (k : Nat) : 0 ≤ grm n e k k := by
  have : ∀ n, 0 ≤ sm n fun c => e k c * e k c := by
    intro n
    induction n with
    | zero => exact Int.le_refl _
    | succ n ih =>
      have := sq_pos (e k n)
      simp only [sm]
      omega
  exact this n
/-- Columns behind the n-th are 0. -/
def cutE (n : Nat) (e : Nat → Nat → Int) : Nat → Nat → Int := fun i j => if j < n then e i j else 0
theorem grm_cut (n : Nat) (h4 : n ≤ 4) (e : Nat → Nat → Int) : grm 4 (cutE n e) = grm n e := by
  funext i j
  match n, h4 with
  | 0, _ => simp [grm, dot, sm, cutE]
  | 1, _ => simp [grm, dot, sm, cutE]
  | 2, _ => simp [grm, dot, sm, cutE]
  | 3, _ => simp [grm, dot, sm, cutE]
  | 4, _ => simp [grm, dot, sm, cutE]
/-- The volume of the first k rows. -/
def vol (n : Nat) (e : Nat → Nat → Int) (k : Nat) : Int := det k (grm n e)
theorem vol_le {n k : Nat} (hn : n ≤ 4) (hk : k < 4) (e : Nat → Nat → Int) : vol n e (k + 1) ≤ vol n e k * grm n e k k := by
  unfold vol
  rw [← grm_cut n hn]
  exact vol_step _ k hk
theorem vol_sq (n : Nat) (hn : n ≤ 4) (e : Nat → Nat → Int) : vol n e n = det n e * det n e := by
  unfold vol
  match n, hn with
  | 0, _ => rfl
  | 1, _ => simp [det1, grm, dot, sm]
  | 2, _ => exact sq2 e
  | 3, _ => exact sq3 e
  | 4, _ => exact sq4 e
theorem pos_of_mul {a b : Int} (h : 0 < a * b) (hb : 0 ≤ b) : 0 < a := by
  apply Decidable.byContradiction
  intro ha
  have := Int.mul_le_mul_of_nonneg_right (show a ≤ 0 by omega) hb
  omega
theorem vol_pos {n : Nat} (hn : n ≤ 4) {e : Nat → Nat → Int} (hd : det n e ≠ 0) : ∀ j k, k + j = n → 0 < vol n e k
  | 0, k, h => by
    have : k = n := by omega
    subst this
    rw [vol_sq k hn]
    have := sq_pos (det k e)
    rcases Int.lt_or_gt_of_ne hd with h | h
    · exact Int.mul_pos_of_neg_of_neg h h
    · exact Int.mul_pos h h
  | j + 1, k, h => by
    have h1 := vol_pos hn hd j (k + 1) (by omega)
    have h2 := vol_le (e := e) hn (show k < 4 by omega)
    exact pos_of_mul (Int.lt_of_lt_of_le h1 h2) (grm_pos n e k)
/-- Volumes of rows that are bounded. -/
theorem vol_pow {n : Nat} (hn : n ≤ 4) {e : Nat → Nat → Int} (hd : det n e ≠ 0) {M : Int} (hM : ∀ k, k < n → grm n e k k ≤ M) : ∀ k, k ≤ n → vol n e k ≤ M ^ k
  | 0, _ => by simp [vol, det, lap]
  | k + 1, h => by
    have h1 := vol_pow hn hd hM k (by omega)
    have h2 := vol_le (e := e) hn (show k < 4 by omega)
    have h3 := hM k (by omega)
    have h4 := grm_pos n e k
    have h5 := vol_pos hn hd (n - k) k (by omega)
    have h6 : vol n e k * grm n e k k ≤ M ^ k * M := by
      refine Int.le_trans (Int.mul_le_mul_of_nonneg_right h1 h4) (Int.mul_le_mul_of_nonneg_left h3 ?_)
      omega
    rw [Int.pow_succ]
    omega
end Go.Proofs.Ytgfenponlkmfmaa
