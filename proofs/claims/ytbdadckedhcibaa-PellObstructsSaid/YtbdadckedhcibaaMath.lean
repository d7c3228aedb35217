/- Plain mathematics for package pell: whole square roots, Newton's steps, the continued fraction of a square root and its convergents; no program is named. No condition beyond those stated. -/
namespace Go.Proofs.Ytbdadckedhcibaa

/-- The greatest whole number whose square is at most n, by 31 halvings; -1 of n below 0. -/
def rootLoop : Nat → Int → Int → Int
  | 0, r, _ => r
  | k + 1, r, n => if (r + (2 ^ k : Nat)) * (r + (2 ^ k : Nat)) ≤ n then rootLoop k (r + (2 ^ k : Nat)) n else rootLoop k r n
def rootF (n : Int) : Int := rootLoop 31 (-1) n

def IsRoot (n r : Int) : Prop := 0 ≤ r ∧ r * r ≤ n ∧ n < (r + 1) * (r + 1)

theorem sq_le {a b : Int} (h0 : 0 ≤ a) (h : a ≤ b) : a * a ≤ b * b := Int.mul_le_mul h h h0 (by omega)
theorem sq_lt {a b : Int} (h0 : 0 ≤ a) (h : a < b) : a * a < b * b := by
  have h1 : (a + 1) * (a + 1) ≤ b * b := sq_le (by omega) (by omega)
  have h2 : (a + 1) * (a + 1) = a * a + 2 * a + 1 := by grind
  omega

theorem sq_nonneg (a : Int) : 0 ≤ a * a := by
  rcases Int.le_total 0 a with h | h
  · exact Int.mul_nonneg h h
  · exact Int.mul_nonneg_of_nonpos_of_nonpos h h

theorem IsRoot.unique {n r s : Int} (h : IsRoot n r) (k : IsRoot n s) : r = s := by
  obtain ⟨h0, h1, h2⟩ := h
  obtain ⟨k0, k1, k2⟩ := k
  by_cases e : r < s
  · have := sq_le (a := r + 1) (b := s) (by omega) (by omega); omega
  · by_cases e' : s < r
    · have := sq_le (a := s + 1) (b := r) (by omega) (by omega); omega
    · omega

theorem rootLoop_spec : ∀ (k : Nat) (r n : Int), -1 ≤ r → (r = -1 ∨ r * r ≤ n) → n < (r + (2 ^ k : Nat)) * (r + (2 ^ k : Nat)) → 0 ≤ n → -1 ≤ rootLoop k r n ∧ (rootLoop k r n = -1 ∨ rootLoop k r n * rootLoop k r n ≤ n) ∧ n < (rootLoop k r n + 1) * (rootLoop k r n + 1)
  | 0, r, n, h1, h2, h3, _ => by simpa [rootLoop] using ⟨h1, h2, by simpa using h3⟩
  | k + 1, r, n, h1, h2, h3, h4 => by
    have hp : 0 < 2 ^ k := Nat.two_pow_pos k
    have e : r + (2 ^ (k + 1) : Nat) = (r + (2 ^ k : Nat)) + (2 ^ k : Nat) := by rw [Nat.pow_succ]; omega
    rw [e] at h3
    simp only [rootLoop]
    split
    · rename_i h; exact rootLoop_spec k _ n (by omega) (.inr h) h3 h4
    · rename_i h; exact rootLoop_spec k _ n h1 h2 (by omega) h4

theorem rootLoop_bd : ∀ (k : Nat) (r n : Int), r ≤ rootLoop k r n ∧ rootLoop k r n < r + (2 ^ k : Nat)
  | 0, r, n => by simp [rootLoop]; omega
  | k + 1, r, n => by
    have hp : 0 < 2 ^ k := Nat.two_pow_pos k
    have e : ((2 ^ (k + 1) : Nat) : Int) = (2 ^ k : Nat) + (2 ^ k : Nat) := by rw [Nat.pow_succ]; omega
    simp only [rootLoop]
    split
    · have := rootLoop_bd k (r + (2 ^ k : Nat)) n; omega
    · have := rootLoop_bd k r n; omega

theorem rootF_bd (n : Int) : -1 ≤ rootF n ∧ rootF n ≤ 2147483646 := by
  have h := rootLoop_bd 31 (-1) n
  have e : ((2 ^ 31 : Nat) : Int) = 2147483648 := by decide
  rw [e] at h
  unfold rootF
  omega

theorem rootF_spec (n : Int) (h0 : 0 ≤ n) (h : n < 4611686014132420609) : IsRoot n (rootF n) := by
  have e : (-1 + ((2 ^ 31 : Nat) : Int)) * (-1 + ((2 ^ 31 : Nat) : Int)) = 4611686014132420609 := by decide
  obtain ⟨h1, h2, h3⟩ := rootLoop_spec 31 (-1) n (by omega) (.inl rfl) (by rw [e]; exact h) h0
  have hne : rootLoop 31 (-1) n ≠ -1 := fun e => by rw [e] at h3; simp at h3; omega
  exact ⟨by unfold rootF; omega, by unfold rootF; omega, h3⟩

theorem rootLoop_neg : ∀ (k : Nat) (r n : Int), n < 0 → rootLoop k r n = r
  | 0, _, _, _ => rfl
  | k + 1, r, n, h => by
    have := sq_nonneg (r + (2 ^ k : Nat))
    simp only [rootLoop]
    rw [if_neg (by omega)]
    exact rootLoop_neg k r n h
theorem rootF_neg (n : Int) (h : n < 0) : rootF n = -1 := rootLoop_neg 31 (-1) n h

/-! Newton's step. -/
theorem newton_lo (n r : Int) (h1 : 1 ≤ r) (hn : 1 ≤ n) : n < ((r + n / r) / 2 + 1) * ((r + n / r) / 2 + 1) := by
  generalize hq : n / r = q
  have hlt : n < r * (q + 1) := by
    have := Int.lt_mul_ediv_self_add (x := n) (k := r) (by omega)
    rw [hq] at this
    have e : r * (q + 1) = r * q + r := by grind
    omega
  have hq0 : 0 ≤ q := by rw [← hq]; exact Int.ediv_nonneg (by omega) (by omega)
  generalize hx : (r + q) / 2 = x
  have hx2 : r + q + 1 ≤ 2 * (x + 1) := by omega
  have h4 : (r + q + 1) * (r + q + 1) ≤ (2 * (x + 1)) * (2 * (x + 1)) := sq_le (by omega) hx2
  have h5 : 0 ≤ (r - (q + 1)) * (r - (q + 1)) := sq_nonneg _
  have h6 : (r + q + 1) * (r + q + 1) = 4 * (r * (q + 1)) + (r - (q + 1)) * (r - (q + 1)) := by grind
  have h7 : (2 * (x + 1)) * (2 * (x + 1)) = 4 * ((x + 1) * (x + 1)) := by grind
  omega

theorem newton_end (n r : Int) (h1 : 1 ≤ r) (hr : n < (r + 1) * (r + 1)) (h : r ≤ (r + n / r) / 2) : IsRoot n r := by
  refine ⟨by omega, ?_, hr⟩
  have hq : r ≤ n / r := by omega
  have h2 := Int.mul_le_mul_of_nonneg_left hq (show 0 ≤ r by omega)
  have h3 := Int.mul_ediv_self_le (x := n) (k := r) (by omega)
  omega

theorem newton_pos (n x : Int) (hn : 1 ≤ n) (h0 : 0 ≤ x) (h : n < (x + 1) * (x + 1)) : 1 ≤ x := by
  by_cases e : x = 0
  · subst e; simp at h; omega
  · omega

/-! The continued fraction. -/
structure Cf where
  m : Int
  b : Int
  a : Int
deriving DecidableEq

def cfS (d : Int) : Nat → Cf
  | 0 => ⟨0, 1, rootF d⟩
  | k + 1 => match cfS d k with
    | ⟨m, b, a⟩ => ⟨b * a - m, (d - (b * a - m) * (b * a - m)) / b, (rootF d + (b * a - m)) / ((d - (b * a - m) * (b * a - m)) / b)⟩

def cfM (d : Int) (k : Nat) : Int := (cfS d k).m
def cfB (d : Int) (k : Nat) : Int := (cfS d k).b
def cfA (d : Int) (k : Nat) : Int := (cfS d k).a

theorem cfM_succ (d : Int) (k : Nat) : cfM d (k + 1) = cfB d k * cfA d k - cfM d k := rfl
theorem cfB_succ (d : Int) (k : Nat) : cfB d (k + 1) = (d - cfM d (k + 1) * cfM d (k + 1)) / cfB d k := rfl
theorem cfA_succ (d : Int) (k : Nat) : cfA d (k + 1) = (rootF d + cfM d (k + 1)) / cfB d (k + 1) := rfl

structure Cv where
  p : Int
  q : Int
  lp : Int
  lq : Int
deriving DecidableEq

/-- The convergents: 'cvS d k' is the state after k rounds. -/
def cvS (d : Int) : Nat → Cv
  | 0 => ⟨1, 0, 0, 1⟩
  | k + 1 => match cvS d k, cfA d k with
    | ⟨p, q, lp, lq⟩, a => ⟨a * p + lp, a * q + lq, p, q⟩
def cvP (d : Int) (k : Nat) : Int := (cvS d k).p
def cvQ (d : Int) (k : Nat) : Int := (cvS d k).q
def cvLP (d : Int) (k : Nat) : Int := (cvS d k).lp
def cvLQ (d : Int) (k : Nat) : Int := (cvS d k).lq
theorem cvP_succ (d : Int) (k : Nat) : cvP d (k + 1) = cfA d k * cvP d k + cvLP d k := rfl
theorem cvQ_succ (d : Int) (k : Nat) : cvQ d (k + 1) = cfA d k * cvQ d k + cvLQ d k := rfl
theorem cvLP_succ (d : Int) (k : Nat) : cvLP d (k + 1) = cvP d k := rfl
theorem cvLQ_succ (d : Int) (k : Nat) : cvLQ d (k + 1) = cvQ d k := rfl

def isD (d : Int) : Bool := decide (2 ≤ d) && decide (d ≤ 100) && !decide (rootF d * rootF d = d)

/-- The first round that is not gone: p would be too large. -/
def cvStopAux (d : Int) : Nat → Nat → Nat
  | 0, k => k
  | f + 1, k => if cvP d k > (1000000000000000000 - cvLP d k) / cfA d k then k else cvStopAux d f (k + 1)
def cvStop (d : Int) : Nat := cvStopAux d 90 0

/-- All that a walk asks of the first k numbers, told in one go. -/
def cfGood (d : Int) (k : Nat) : Bool :=
  decide (0 ≤ cfM d k) && decide (cfM d k ≤ 20) && decide (1 ≤ cfB d k) && decide (cfB d k ≤ 100) && decide (1 ≤ cfA d k) && decide (cfA d k ≤ 20)
    && decide (cfM d (k + 1) * cfM d (k + 1) ≤ d)
def cvGood (d : Int) (k : Nat) : Bool :=
  decide (0 ≤ cvP d k) && decide (cvP d k ≤ 1000000000000000000) && decide (0 ≤ cvQ d k) && decide (cvQ d k ≤ 1000000000000000000) && decide (0 ≤ cvLP d k) && decide (cvLP d k ≤ 1000000000000000000)
    && decide (0 ≤ cvLQ d k) && decide (cvLQ d k ≤ 1000000000000000000)

def allBelow (n : Nat) (p : Nat → Bool) : Bool := (List.range n).all p
theorem allBelow_at {n : Nat} {p : Nat → Bool} (h : allBelow n p = true) {k : Nat} (hk : k < n) : p k = true :=
  List.all_eq_true.1 h k (List.mem_range.2 hk)

def cfCheck : Bool := allBelow 101 fun d => !isD d || (allBelow 90 (cfGood d) && decide (cvStop d < 88) && allBelow (cvStop d + 1) (cvGood d))
theorem cfCheck_ok : cfCheck = true := by decide +kernel

theorem isD_bd {d : Int} (h : isD d = true) : 2 ≤ d ∧ d ≤ 100 := by
  simp [isD] at h
  omega

end Go.Proofs.Ytbdadckedhcibaa
