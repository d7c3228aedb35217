/- Three gaps, plainly: the multiples of a number on a circle lie at most three distances apart, the greatest of three the sum of the others. No condition beyond those stated. -/
import Derived.Test.YtbdabpmpfciibaaGapMath
namespace Go.Proofs.Ytbdabpmpfciibaa

theorem ex_min (X : Nat → Nat) : ∀ n, 2 ≤ n → ∃ a, 1 ≤ a ∧ a < n ∧ ∀ i, 1 ≤ i → i < n → X a ≤ X i
  | 0, h => by omega
  | 1, h => by omega
  | n + 2, _ => by
    by_cases hn : n = 0
    · subst hn
      exact ⟨1, by omega, by omega, fun i h1 h2 => by
        have : i = 1 := by omega
        subst this; exact Nat.le_refl _⟩
    · obtain ⟨a, h1, h2, h3⟩ := ex_min X (n + 1) (by omega)
      by_cases h : X a ≤ X (n + 1)
      · exact ⟨a, h1, by omega, fun i i1 i2 => by
          by_cases hi : i = n + 1
          · subst hi; exact h
          · exact h3 i i1 (by omega)⟩
      · exact ⟨n + 1, by omega, by omega, fun i i1 i2 => by
          by_cases hi : i = n + 1
          · subst hi; exact Nat.le_refl _
          · have := h3 i i1 (by omega); omega⟩
theorem ex_max (X : Nat → Nat) : ∀ n, 2 ≤ n → ∃ b, 1 ≤ b ∧ b < n ∧ ∀ i, 1 ≤ i → i < n → X i ≤ X b
  | 0, h => by omega
  | 1, h => by omega
  | n + 2, _ => by
    by_cases hn : n = 0
    · subst hn
      exact ⟨1, by omega, by omega, fun i h1 h2 => by
        have : i = 1 := by omega
        subst this; exact Nat.le_refl _⟩
    · obtain ⟨a, h1, h2, h3⟩ := ex_max X (n + 1) (by omega)
      by_cases h : X (n + 1) ≤ X a
      · exact ⟨a, h1, by omega, fun i i1 i2 => by
          by_cases hi : i = n + 1
          · subst hi; exact h
          · exact h3 i i1 (by omega)⟩
      · exact ⟨n + 1, by omega, by omega, fun i i1 i2 => by
          by_cases hi : i = n + 1
          · subst hi; exact Nat.le_refl _
          · have := h3 i i1 (by omega); omega⟩

/-- Points that turn by the same step. -/
structure Rot (X : Nat → Nat) (m n : Nat) : Prop where
  add : ∀ i j, X (i + j) = X i + X j ∨ X (i + j) + m = X i + X j
  lt : ∀ i, X i < m
  inj : ∀ i j, i < j → j < n → X i ≠ X j
  zero : X 0 = 0

theorem three {X : Nat → Nat} {m n : Nat} (h : Rot X m n) (hn : 2 ≤ n) :
    ∃ A B, 1 ≤ A ∧ 1 ≤ B ∧ ∀ i, i < n → ∃ δ, (δ = A ∨ δ = B ∨ δ = A + B) ∧ X i + δ ≤ m ∧ (X i + δ < m → ∃ k, k < n ∧ X k = X i + δ) ∧ ∀ j, j < n → ¬ (X i < X j ∧ X j < X i + δ) := by
  obtain ⟨a, a1, a2, amin⟩ := ex_min X n hn
  obtain ⟨b, b1, b2, bmax⟩ := ex_max X n hn
  have hz := h.zero
  have pos : ∀ i, 1 ≤ i → i < n → 1 ≤ X i := fun i h1 h2 => by
    have := h.inj 0 i h1 h2
    omega
  have la := h.lt a
  have lb := h.lt b
  have pa := pos a a1 a2
  have hab : n ≤ a + b := by
    rcases Nat.lt_or_ge (a + b) n with hlt | hge
    · exfalso
      have e := h.add a b
      have e1 := amin (a + b) (by omega) hlt
      have e2 := bmax (a + b) (by omega) hlt
      omega
    · exact hge
  refine ⟨X a, m - X b, pa, by omega, fun i hi => ?_⟩
  have li := h.lt i
  by_cases c1 : i + a < n
  · refine ⟨X a, .inl rfl, ?_, ?_, ?_⟩
    · have e := h.add i a
      have e1 := amin (i + a) (by omega) c1
      have e2 := pos (i + a) (by omega) c1
      have e3 := h.lt (i + a)
      omega
    · intro hlt
      have e := h.add i a
      exact ⟨i + a, c1, by omega⟩
    · rintro j hj ⟨g1, g2⟩
      by_cases hji : i < j
      · have e := h.add i (j - i)
        rw [show i + (j - i) = j by omega] at e
        have e1 := amin (j - i) (by omega) (by omega)
        have e2 := h.lt (j - i)
        omega
      · have hne : j ≠ i := fun e => by subst e; omega
        have e := h.add j (i - j)
        rw [show j + (i - j) = i by omega] at e
        have e0 := h.add (i - j) a
        have e1 := amin (i - j + a) (by omega) (by omega)
        have e2 := h.lt (i - j + a)
        have e3 := h.lt (i - j)
        omega
  · by_cases c2 : b ≤ i
    · refine ⟨m - X b, .inr (.inl rfl), ?_, ?_, ?_⟩
      · by_cases hib : i = b
        · subst hib; omega
        · have e1 := bmax i (by omega) hi
          omega
      · intro hlt
        have hib : i ≠ b := fun e => by subst e; omega
        have e := h.add (i - b) b
        rw [show i - b + b = i by omega] at e
        have e1 := bmax i (by omega) hi
        have e2 := pos (i - b) (by omega) (by omega)
        exact ⟨i - b, by omega, by omega⟩
      · rintro j hj ⟨g1, g2⟩
        by_cases hji : i < j
        · have e := h.add i (j - i)
          rw [show i + (j - i) = j by omega] at e
          have e0 := h.add b (j - i)
          have e1 := bmax (b + (j - i)) (by omega) (by omega)
          have e2 := h.lt (j - i)
          have e3 := h.lt (b + (j - i))
          omega
        · have hne : j ≠ i := fun e => by subst e; omega
          have e := h.add j (i - j)
          rw [show j + (i - j) = i by omega] at e
          have e1 := bmax (i - j) (by omega) (by omega)
          have e3 := h.lt (i - j)
          omega
    · have hne : X i ≠ X b := h.inj i b (by omega) b2
      have i1 : 1 ≤ i := by omega
      have hle : X i + (X a + (m - X b)) ≤ m := by
        have e1 := bmax i i1 hi
        have e := h.add i (b - i)
        rw [show i + (b - i) = b by omega] at e
        have e2 := amin (b - i) (by omega) (by omega)
        have e3 := h.lt (b - i)
        omega
      refine ⟨X a + (m - X b), .inr (.inr rfl), hle, ?_, ?_⟩
      · intro hlt
        have e := h.add i a
        have e0 := h.add (i + a - b) b
        rw [show i + a - b + b = i + a by omega] at e0
        have e1 := h.lt (i + a)
        have e2 := h.lt (i + a - b)
        exact ⟨i + a - b, by omega, by omega⟩
      · rintro j hj ⟨g1, g2⟩
        by_cases hji : i < j
        · have e := h.add i (j - i)
          rw [show i + (j - i) = j by omega] at e
          have e1 := amin (j - i) (by omega) (by omega)
          have e2 := h.lt (j - i)
          have e3 := h.inj (j - i) a (by omega) a2
          have e4 := h.add (j - i) (a - (j - i))
          rw [show j - i + (a - (j - i)) = a by omega] at e4
          have e5 := bmax (a - (j - i)) (by omega) (by omega)
          have e6 := h.lt (a - (j - i))
          omega
        · have hne2 : j ≠ i := fun e => by subst e; omega
          have e := h.add j (i - j)
          rw [show j + (i - j) = i by omega] at e
          have e1 := bmax (i - j) (by omega) (by omega)
          have e2 := h.lt (i - j)
          have e3 := h.inj (i - j) b (by omega) b2
          have e4 := h.add (i - j) (b - (i - j))
          rw [show i - j + (b - (i - j)) = b by omega] at e4
          have e5 := amin (b - (i - j)) (by omega) (by omega)
          have e6 := h.lt (b - (i - j))
          omega

theorem rot_pts {p m n : Nat} (hc : Nat.gcd p m = 1) (hn : n ≤ m) (hm : 0 < m) : Rot (fun i => i * p % m) m n := by
  refine ⟨fun i j => ?_, fun i => Nat.mod_lt _ hm, fun i j h1 h2 => pts_inj hc h1 (by omega), by simp⟩
  show (i + j) * p % m = i * p % m + j * p % m ∨ (i + j) * p % m + m = i * p % m + j * p % m
  rw [Nat.add_mul, Nat.add_mod]
  have h1 := Nat.mod_lt (i * p) hm
  have h2 := Nat.mod_lt (j * p) hm
  generalize i * p % m = u at *
  generalize j * p % m = v at *
  by_cases h : u + v < m
  · left; exact Nat.mod_eq_of_lt h
  · right
    have e : (u + v) % m = u + v - m := by
      rw [Nat.mod_eq_sub_mod (by omega), Nat.mod_eq_of_lt (by omega)]
    omega

theorem nx_eq {T : Nat → Bool} {m x y : Nat} (hx : x < m) (h1 : x < y) (h2 : y ≤ m) (h3 : ∀ z, x < z → z < y → T z = false) (h4 : y < m → T y = true) : nx T m x = y := by
  obtain ⟨s1, s2, s3, s4⟩ := nx_spec T hx
  rcases Nat.lt_trichotomy (nx T m x) y with h | h | h
  · have := h3 _ s1 h
    rw [s4 (by omega)] at this
    exact absurd this (by simp)
  · exact h
  · have := s3 y h1 h
    rw [h4 (by omega)] at this
    exact absurd this (by simp)
/-- The distances. -/
theorem gaps_three {p m n : Nat} (hc : Nat.gcd p m = 1) (h1 : 1 ≤ n) (hn : n ≤ m) (hm : 0 < m) : ∃ A B, 1 ≤ A ∧ 1 ≤ B ∧ ∀ x ∈ plN p m n, nx (tf p m n) m x - x = A ∨ nx (tf p m n) m x - x = B ∨ nx (tf p m n) m x - x = A + B := by
  have mem : ∀ {z}, tf p m n z = true → ∃ i, i < n ∧ i * p % m = z := by
    intro z hz
    unfold tf at hz
    rw [List.any_eq_true] at hz
    obtain ⟨i, hi, e⟩ := hz
    exact ⟨i, List.mem_range.1 hi, by simpa using e⟩
  have mk : ∀ {i}, i < n → tf p m n (i * p % m) = true := by
    intro i hi
    unfold tf
    rw [List.any_eq_true]
    exact ⟨i, List.mem_range.2 hi, by simp⟩
  by_cases h2 : n = 1
  · refine ⟨m, m, hm, hm, fun x hx => ?_⟩
    left
    obtain ⟨i, hi, e⟩ := mem (plN_lt hx).2
    have : i = 0 := by omega
    subst this
    have hx0 : x = 0 := by simpa using e.symm
    subst hx0
    have : nx (tf p m n) m 0 = m := nx_eq hm hm (Nat.le_refl _) (fun z z1 z2 => by
      rw [← Bool.not_eq_true]
      intro hz
      obtain ⟨j, hj, ej⟩ := mem hz
      have : j = 0 := by omega
      subst this
      simp at ej
      omega) (fun h => by omega)
    omega
  · obtain ⟨A, B, hA, hB, hall⟩ := three (rot_pts hc hn hm) (by omega)
    refine ⟨A, B, hA, hB, fun x hx => ?_⟩
    obtain ⟨hxm, hxt⟩ := plN_lt hx
    obtain ⟨i, hi, e⟩ := mem hxt
    obtain ⟨δ, hδ, g1, g2, g3⟩ := hall i hi
    rw [e] at g1 g2 g3
    have hnx : nx (tf p m n) m x = x + δ := nx_eq hxm (by omega) g1 (fun z z1 z2 => by
      rw [← Bool.not_eq_true]
      intro hz
      obtain ⟨j, hj, ej⟩ := mem hz
      have := g3 j hj
      rw [ej] at this
      exact this ⟨z1, z2⟩) (fun h => by
      obtain ⟨k, hk, ek⟩ := g2 h
      rw [← ek]
      exact mk hk)
    rw [hnx, Nat.add_sub_cancel_left]
    exact hδ

/-- Sums over the list. -/
def sLong : List (Int × Int) → Int
  | [] => 0
  | q :: r => q.1 * q.2 + sLong r
def sCount : List (Int × Int) → Int
  | [] => 0
  | q :: r => q.2 + sCount r
theorem sLong_app : ∀ a b, sLong (a ++ b) = sLong a + sLong b
  | [], b => by simp [sLong]
  | q :: r, b => by rw [List.cons_append]; simp only [sLong]; rw [sLong_app r b]; omega
theorem sCount_app : ∀ a b, sCount (a ++ b) = sCount a + sCount b
  | [], b => by simp [sCount]
  | q :: r, b => by rw [List.cons_append]; simp only [sCount]; rw [sCount_app r b]; omega
theorem sCount_can (c : Nat → Nat) (k : Nat) : sCount (canL c (k + 1)) = sCount (canL c k) + c k := by
  have e : canL c (k + 1) = if 0 < c k then canL c k ++ [((k : Int), (c k : Int))] else canL c k := rfl
  rw [e]
  by_cases h : 0 < c k
  · rw [if_pos h, sCount_app]; simp [sCount]
  · rw [if_neg h]; omega
theorem sLong_can (c : Nat → Nat) (k : Nat) : sLong (canL c (k + 1)) = sLong (canL c k) + ((k * c k : Nat) : Int) := by
  have e : canL c (k + 1) = if 0 < c k then canL c k ++ [((k : Int), (c k : Int))] else canL c k := rfl
  rw [e]
  by_cases h : 0 < c k
  · rw [if_pos h, sLong_app]; simp [sLong]
  · have h0 : c k = 0 := by omega
    rw [if_neg h, h0]; simp
/-- How many are below k, and their sum. -/
def cntLt (G : Nat → Nat) (k : Nat) : List Nat → Nat
  | [] => 0
  | x :: r => (if G x < k then 1 else 0) + cntLt G k r
def sumLt (G : Nat → Nat) (k : Nat) : List Nat → Nat
  | [] => 0
  | x :: r => (if G x < k then G x else 0) + sumLt G k r
theorem cntLt_succ (G : Nat → Nat) (k : Nat) : ∀ l, cntLt G (k + 1) l = cntLt G k l + l.countP (fun x => G x == k)
  | [] => rfl
  | x :: r => by
    have ih := cntLt_succ G k r
    simp only [cntLt, List.countP_cons]
    rw [ih]
    by_cases h : G x = k
    · rw [if_pos (by omega), if_neg (by omega), if_pos (by simp [h])]; omega
    · by_cases h2 : G x < k
      · rw [if_pos (by omega), if_pos h2, if_neg (by simp [h])]; omega
      · rw [if_neg (by omega), if_neg h2, if_neg (by simp [h])]; omega
theorem sumLt_succ (G : Nat → Nat) (k : Nat) : ∀ l, sumLt G (k + 1) l = sumLt G k l + k * l.countP (fun x => G x == k)
  | [] => by simp [sumLt]
  | x :: r => by
    have ih := sumLt_succ G k r
    simp only [sumLt, List.countP_cons]
    rw [ih, Nat.mul_add]
    by_cases h : G x = k
    · rw [if_pos (by omega), if_neg (by omega), if_pos (by simp [h])]; omega
    · by_cases h2 : G x < k
      · rw [if_pos (by omega), if_pos h2, if_neg (by simp [h])]; omega
      · rw [if_neg (by omega), if_neg h2, if_neg (by simp [h])]; omega
theorem sums_can (T : Nat → Bool) (m : Nat) (l : List Nat) : ∀ k, sCount (canL (cF T m l) k) = cntLt (fun x => nx T m x - x) k l ∧ sLong (canL (cF T m l) k) = sumLt (fun x => nx T m x - x) k l
  | 0 => by
    have z1 : ∀ l, cntLt (fun x => nx T m x - x) 0 l = 0 := fun l => by induction l with
      | nil => rfl
      | cons x r ih => simp only [cntLt]; rw [ih]; simp
    have z2 : ∀ l, sumLt (fun x => nx T m x - x) 0 l = 0 := fun l => by induction l with
      | nil => rfl
      | cons x r ih => simp only [sumLt]; rw [ih]; simp
    rw [z1, z2]
    exact ⟨rfl, rfl⟩
  | k + 1 => by
    obtain ⟨h1, h2⟩ := sums_can T m l k
    rw [sCount_can, sLong_can, cntLt_succ, sumLt_succ, h1, h2]
    unfold cF
    omega
theorem gapsOf_sum : ∀ (x : Nat) (r : List Nat) (m : Nat), (x :: r).Pairwise (· < ·) → (∀ y ∈ x :: r, y < m) → (gapsOf (x :: r) m).sum = m - x
  | x, [], m, _, _ => by simp [gapsOf]
  | x, y :: r, m, hp, hb => by
    have ih := gapsOf_sum y r m (List.Pairwise.of_cons hp) (fun z hz => hb z (List.mem_cons_of_mem _ hz))
    have hxy : x < y := (List.pairwise_cons.1 hp).1 y (by simp)
    have hy : y < m := hb y (by simp)
    show ((y - x) :: gapsOf (y :: r) m).sum = m - x
    rw [List.sum_cons, ih]
    omega
theorem sumLt_all (G : Nat → Nat) (k : Nat) : ∀ l, (∀ x ∈ l, G x < k) → sumLt G k l = (l.map G).sum ∧ cntLt G k l = l.length
  | [], _ => ⟨rfl, rfl⟩
  | x :: r, h => by
    obtain ⟨h1, h2⟩ := sumLt_all G k r (fun y hy => h y (List.mem_cons_of_mem _ hy))
    have := h x (by simp)
    simp only [sumLt, cntLt]
    rw [if_pos this, if_pos this, h1, h2]
    simp; omega
theorem gp_sums {p m n : Nat} (hc : Nat.gcd p m = 1) (h1 : 1 ≤ n) (hn : n ≤ m) (hm : 0 < m) : sCount (canL (cF (tf p m n) m (plN p m n)) (m + 1)) = n ∧ sLong (canL (cF (tf p m n) m (plN p m n)) (m + 1)) = m := by
  obtain ⟨e1, e2⟩ := sums_can (tf p m n) m (plN p m n) (m + 1)
  have hb : ∀ x ∈ plN p m n, nx (tf p m n) m x - x < m + 1 := fun x hx => by
    have := (nx_spec (tf p m n) (plN_lt hx).1).2.1; omega
  obtain ⟨s1, s2⟩ := sumLt_all (fun x => nx (tf p m n) m x - x) (m + 1) (plN p m n) hb
  rw [e1, e2, s1, s2, plN_len hc hn hm]
  refine ⟨rfl, ?_⟩
  have hg : gapsOf (plN p m n) m = (plN p m n).map fun x => nx (tf p m n) m x - x := gapsOf_filter (tf p m n) m m 0 (by omega)
  rw [← hg]
  have h0 : (0 : Nat) ∈ plN p m n := plN_mem hm (by
    unfold tf
    rw [List.any_eq_true]
    exact ⟨0, List.mem_range.2 (by omega), by simp⟩)
  have hr := plN_rise p m n
  have hlt : ∀ y ∈ plN p m n, y < m := fun y hy => (plN_lt hy).1
  cases hl : plN p m n with
  | nil => rw [hl] at h0; simp at h0
  | cons x r =>
    rw [hl] at h0 hr hlt
    rw [gapsOf_sum x r m hr hlt]
    have hx : x = 0 := by
      rw [List.mem_cons] at h0
      rcases h0 with h | h
      · exact h.symm
      · have := (List.pairwise_cons.1 hr).1 0 h; omega
    subst hx
    simp
/-- What the law asks of the list. -/
theorem gp_three {p m n : Nat} (hc : Nat.gcd p m = 1) (h1 : 1 ≤ n) (hn : n ≤ m) (hm : 0 < m) (L : List (Int × Int)) (hL : L = canL (cF (tf p m n) m (plN p m n)) (m + 1)) :
    L.length ≤ 3 ∧ (∀ a b c, L = [a, b, c] → a.1 + b.1 = c.1) ∧ ∀ q ∈ L, 1 ≤ q.1 ∧ q.1 ≤ m ∧ 1 ≤ q.2 ∧ q.2 ≤ m := by
  obtain ⟨A, B, hA, hB, hall⟩ := gaps_three hc h1 hn hm
  have hr : L.Pairwise fun a b => a.1 < b.1 := hL ▸ canL_rise _ _
  have hmem : ∀ q ∈ L, (q.1 = (A : Int) ∨ q.1 = (B : Int) ∨ q.1 = (A : Int) + (B : Int)) ∧ 1 ≤ q.1 ∧ q.1 ≤ m ∧ 1 ≤ q.2 ∧ q.2 ≤ m := by
    intro q hq
    rw [hL, canL_mem] at hq
    obtain ⟨d, d1, d2, rfl⟩ := hq
    have hle : cF (tf p m n) m (plN p m n) d ≤ m := by
      unfold cF
      exact Nat.le_trans List.countP_le_length (by rw [plN_len hc hn hm]; exact hn)
    have hd2 := d2
    unfold cF at d2
    rw [List.countP_pos_iff] at d2
    obtain ⟨x, hx, e⟩ := d2
    have e' : nx (tf p m n) m x - x = d := by simpa using e
    have := hall x hx
    have hp := (nx_spec (tf p m n) (plN_lt hx).1).1
    refine ⟨?_, ?_, ?_, ?_, ?_⟩
    · show (d : Int) = A ∨ (d : Int) = B ∨ (d : Int) = A + B
      omega
    · show (1 : Int) ≤ (d : Int); omega
    · show (d : Int) ≤ m; omega
    · show (1 : Int) ≤ (cF (tf p m n) m (plN p m n) d : Int); omega
    · show (cF (tf p m n) m (plN p m n) d : Int) ≤ m; omega
  refine ⟨?_, ?_, fun q hq => (hmem q hq).2⟩
  · match L, hr, hmem with
    | [], _, _ => simp
    | [_], _, _ => simp
    | [_, _], _, _ => simp
    | [_, _, _], _, _ => simp
    | a :: b :: c :: d :: r, hr, hmem =>
      exfalso
      have ha := (hmem a (by simp)).1
      have hb := (hmem b (by simp)).1
      have hcc := (hmem c (by simp)).1
      have hd := (hmem d (by simp)).1
      have r1 := (List.pairwise_cons.1 hr).1
      have hr2 := (List.pairwise_cons.1 hr).2
      have r2 := (List.pairwise_cons.1 hr2).1
      have hr3 := (List.pairwise_cons.1 hr2).2
      have r3 := (List.pairwise_cons.1 hr3).1
      have l1 := r1 b (by simp)
      have l2 := r2 c (by simp)
      have l3 := r3 d (by simp)
      omega
  · rintro a b c rfl
    have ha := (hmem a (by simp)).1
    have hb := (hmem b (by simp)).1
    have hcc := (hmem c (by simp)).1
    have r1 := (List.pairwise_cons.1 hr).1
    have hr2 := (List.pairwise_cons.1 hr).2
    have r2 := (List.pairwise_cons.1 hr2).1
    have l1 := r1 b (by simp)
    have l2 := r2 c (by simp)
    omega
end Go.Proofs.Ytbdabpmpfciibaa
