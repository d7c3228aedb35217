/- Plain words for systems of congruences: how often a number is covered, the whole, the least number for which something holds. No condition. -/
namespace Go.Proofs.Ytanhjgneaaenpaa

def nth (L : List (Int × Int)) (j : Nat) : Int × Int := L.getD j (0, 0)
theorem nth_eq {L : List (Int × Int)} {k : Nat} (h : k < L.length) : L[k]? = some (nth L k) := by
  unfold nth
  rw [List.getD_eq_getElem?_getD, List.getElem?_eq_getElem h]
  rfl
theorem nth_mem {L : List (Int × Int)} {k : Nat} (h : k < L.length) : nth L k ∈ L := List.mem_of_getElem? (nth_eq h)
theorem take_succ2 {L : List (Int × Int)} {k : Nat} (h : k < L.length) : L.take (k + 1) = L.take k ++ [nth L k] := by
  rw [List.take_add_one, nth_eq h]; rfl
theorem mem_nth {L : List (Int × Int)} {p : Int × Int} (h : p ∈ L) : ∃ k, k < L.length ∧ nth L k = p := by
  obtain ⟨k, hk, e⟩ := List.mem_iff_getElem.1 h
  refine ⟨k, hk, ?_⟩
  have := nth_eq hk
  rw [List.getElem?_eq_getElem hk] at this
  rw [← Option.some.inj this, e]

/-- Does a pair cover a number? -/
def cvB (n : Int) (p : Int × Int) : Bool := decide (p.2 ∣ n - p.1)
/-- By how many pairs a number is covered. -/
def tm (n : Int) : List (Int × Int) → Nat
  | [] => 0
  | p :: t => tm n t + if cvB n p = true then 1 else 0
theorem tm_app (n : Int) : ∀ (A B : List (Int × Int)), tm n (A ++ B) = tm n A + tm n B
  | [], B => by simp [tm]
  | p :: t, B => by simp only [List.cons_append, tm]; rw [tm_app n t B]; omega
theorem tm_take {n : Int} {L : List (Int × Int)} {k : Nat} (h : k < L.length) : tm n (L.take (k + 1)) = tm n (L.take k) + if cvB n (nth L k) = true then 1 else 0 := by
  rw [take_succ2 h, tm_app]; simp [tm]
theorem tm_le (n : Int) : ∀ L : List (Int × Int), tm n L ≤ L.length
  | [] => Nat.le_refl _
  | p :: t => by have := tm_le n t; simp only [tm, List.length_cons]; split <;> omega

/-- The least common multiple of the moduli. -/
def wl : List (Int × Int) → Nat
  | [] => 1
  | p :: t => Nat.lcm p.2.toNat (wl t)
theorem wl_app : ∀ (A B : List (Int × Int)), wl (A ++ B) = Nat.lcm (wl A) (wl B)
  | [], B => by simp [wl]
  | p :: t, B => by simp only [List.cons_append, wl]; rw [wl_app t B, Nat.lcm_assoc]
theorem wl_take {L : List (Int × Int)} {k : Nat} (h : k < L.length) : wl (L.take (k + 1)) = Nat.lcm (wl (L.take k)) (nth L k).2.toNat := by
  rw [take_succ2 h, wl_app]; simp [wl]
theorem wl_dvd {p : Int × Int} : ∀ {L : List (Int × Int)}, p ∈ L → p.2.toNat ∣ wl L
  | q :: t, h => by
    rcases List.mem_cons.1 h with rfl | h
    · exact Nat.dvd_lcm_left _ _
    · exact Nat.dvd_trans (wl_dvd h) (Nat.dvd_lcm_right _ _)
theorem wl_pos : ∀ {L : List (Int × Int)}, (∀ p ∈ L, 1 ≤ p.2) → 1 ≤ wl L
  | [], _ => Nat.le_refl _
  | p :: t, h => by
    have := wl_pos (L := t) (fun q hq => h q (List.mem_cons_of_mem _ hq))
    have h1 := h p List.mem_cons_self
    exact Nat.lcm_pos (by omega) (by omega)
theorem lcm_le (a b : Nat) (ha : 1 ≤ a) (hb : 1 ≤ b) : Nat.lcm a b ≤ a * b := Nat.le_of_dvd (Nat.mul_pos ha hb) (Nat.lcm_dvd_mul a b)
theorem wl_le : ∀ {L : List (Int × Int)}, (∀ p ∈ L, 1 ≤ p.2 ∧ p.2 ≤ 60) → wl L ≤ 60 ^ L.length
  | [], _ => Nat.le_refl _
  | p :: t, h => by
    have h0 := wl_le (L := t) (fun q hq => h q (List.mem_cons_of_mem _ hq))
    have h1 := h p List.mem_cons_self
    have h2 := wl_pos (L := t) (fun q hq => (h q (List.mem_cons_of_mem _ hq)).1)
    simp only [wl, List.length_cons, Nat.pow_succ]
    refine Nat.le_trans (lcm_le _ _ (by omega) h2) ?_
    rw [Nat.mul_comm]
    exact Nat.mul_le_mul h0 (by omega)

/-- The least number from a on, of k numbers, for which something holds. -/
def lst (P : Nat → Bool) (a : Nat) : Nat → Int × Int
  | 0 => (0, 4)
  | k + 1 => if P a = true then ((a : Int), 0) else lst P (a + 1) k
theorem lst_end (P : Nat → Bool) (a : Nat) : lst P a 0 = (0, 4) := rfl
theorem lst_yes {P : Nat → Bool} {a : Nat} (k : Nat) (h : P a = true) : lst P a (k + 1) = ((a : Int), 0) := by simp [lst, h]
theorem lst_no {P : Nat → Bool} {a : Nat} (k : Nat) (h : P a = false) : lst P a (k + 1) = lst P (a + 1) k := by simp [lst, h]
theorem lst_spec (P : Nat → Bool) : ∀ (k a : Nat), (∃ d, a ≤ d ∧ d < a + k ∧ P d = true ∧ (∀ n, a ≤ n → n < d → P n = false) ∧ lst P a k = ((d : Int), 0)) ∨ ((∀ n, a ≤ n → n < a + k → P n = false) ∧ lst P a k = (0, 4))
  | 0, a => .inr ⟨fun n h1 h2 => by omega, rfl⟩
  | k + 1, a => by
    cases h : P a with
    | true => exact .inl ⟨a, Nat.le_refl _, by omega, h, fun n h1 h2 => by omega, lst_yes k h⟩
    | false =>
      rw [lst_no k h]
      rcases lst_spec P k (a + 1) with ⟨d, h1, h2, h3, h4, h5⟩ | ⟨h1, h2⟩
      · refine .inl ⟨d, by omega, by omega, h3, fun n g1 g2 => ?_, h5⟩
        by_cases e : n = a
        · subst e; exact h
        · exact h4 n (by omega) g2
      · refine .inr ⟨fun n g1 g2 => ?_, h2⟩
        by_cases e : n = a
        · subst e; exact h
        · exact h1 n (by omega) (by omega)
theorem lst_bd (P : Nat → Bool) (k a : Nat) : 0 ≤ (lst P a k).1 ∧ (lst P a k).1 ≤ a + k := by
  rcases lst_spec P k a with ⟨d, h1, h2, -, -, h5⟩ | ⟨-, h5⟩
  · rw [h5]; exact ⟨by show (0 : Int) ≤ (d : Int); omega, by show (d : Int) ≤ _; omega⟩
  · rw [h5]; exact ⟨by decide, by show (0 : Int) ≤ _; omega⟩
theorem lst_none {P : Nat → Bool} {k a : Nat} (h : ∀ n, a ≤ n → n < a + k → P n = false) : lst P a k = (0, 4) := by
  rcases lst_spec P k a with ⟨d, h1, h2, h3, -, -⟩ | ⟨-, h5⟩
  · rw [h d h1 h2] at h3; cases h3
  · exact h5
theorem lst_some {P : Nat → Bool} {k a d : Nat} (h1 : a ≤ d) (h2 : d < a + k) (h3 : P d = true) (h4 : ∀ n, a ≤ n → n < d → P n = false) : lst P a k = ((d : Int), 0) := by
  rcases lst_spec P k a with ⟨d', g1, g2, g3, g4, g5⟩ | ⟨g, -⟩
  · have : d = d' := by
      rcases Nat.lt_trichotomy d d' with h | h | h
      · rw [g4 d h1 h] at h3; cases h3
      · exact h
      · rw [h4 d' g1 h] at g3; cases g3
    subst this; exact g5
  · rw [g d h1 h2] at h3; cases h3
theorem lst_congr {P Q : Nat → Bool} {k a : Nat} (h : ∀ n, a ≤ n → n < a + k → P n = Q n) : lst P a k = lst Q a k := by
  rcases lst_spec P k a with ⟨d, h1, h2, h3, h4, h5⟩ | ⟨h1, h2⟩
  · rw [h5]; exact (lst_some h1 h2 (by rw [← h d h1 h2]; exact h3) (fun n g1 g2 => by rw [← h n g1 (by omega)]; exact h4 n g1 g2)).symm
  · rw [h2]; exact (lst_none (fun n g1 g2 => by rw [← h n g1 g2]; exact h1 n g1 g2)).symm
theorem lst_or (P : Nat → Bool) (k a : Nat) : (lst P a k).2 = 0 ∨ (lst P a k).2 = 4 := by
  rcases lst_spec P k a with ⟨d, -, -, -, -, h⟩ | ⟨-, h⟩ <;> rw [h]
  · exact .inl rfl
  · exact .inr rfl
theorem lst_four {P : Nat → Bool} {k a : Nat} : (lst P a k).2 = 4 ↔ ∀ n, a ≤ n → n < a + k → P n = false := by
  rcases lst_spec P k a with ⟨d, h1, h2, h3, -, h⟩ | ⟨h1, h⟩
  · rw [h]
    refine ⟨fun e => (by cases e), fun g => ?_⟩
    rw [g d h1 h2] at h3; cases h3
  · rw [h]; exact ⟨fun _ => h1, fun _ => rfl⟩

/-- Of how many numbers below k something holds. -/
def cnt (P : Nat → Bool) : Nat → Nat
  | 0 => 0
  | k + 1 => cnt P k + if P k = true then 1 else 0
theorem cnt_le (P : Nat → Bool) : ∀ k, cnt P k ≤ k
  | 0 => Nat.le_refl _
  | k + 1 => by have := cnt_le P k; simp only [cnt]; split <;> omega
theorem cnt_congr {P Q : Nat → Bool} : ∀ {k}, (∀ n, n < k → P n = Q n) → cnt P k = cnt Q k
  | 0, _ => rfl
  | k + 1, h => by simp only [cnt]; rw [cnt_congr (k := k) (fun n hn => h n (by omega)), h k (by omega)]
theorem cnt_app (P : Nat → Bool) (a : Nat) : ∀ b, cnt P (a + b) = cnt P a + cnt (fun n => P (a + n)) b
  | 0 => rfl
  | b + 1 => by rw [← Nat.add_assoc]; simp only [cnt]; rw [cnt_app P a b]; omega
theorem cnt_all {P : Nat → Bool} : ∀ {k}, cnt P k = k ↔ ∀ n, n < k → P n = true
  | 0 => ⟨fun _ n h => by omega, fun _ => rfl⟩
  | k + 1 => by
    have h1 := cnt_le P k
    have ih := cnt_all (P := P) (k := k)
    simp only [cnt]
    refine ⟨fun h n hn => ?_, fun h => ?_⟩
    · have hk : P k = true := by
        cases e : P k with
        | true => rfl
        | false => simp [e] at h; omega
      have : cnt P k = k := by simp [hk] at h; omega
      by_cases e : n = k
      · subst e; exact hk
      · exact ih.1 this n (by omega)
    · rw [ih.2 (fun n hn => h n (by omega)), h k (by omega)]; simp
theorem per_mul {P : Nat → Bool} {W : Nat} (hp : ∀ n, P (n + W) = P n) : ∀ k n, P (W * k + n) = P n
  | 0, n => by simp
  | k + 1, n => by rw [show W * (k + 1) + n = (W * k + n) + W by rw [Nat.mul_succ]; omega, hp, per_mul hp k n]
theorem cnt_per {P : Nat → Bool} {W : Nat} (hp : ∀ n, P (n + W) = P n) : ∀ k, cnt P (W * k) = k * cnt P W
  | 0 => by simp [cnt]
  | k + 1 => by
    rw [Nat.mul_succ, cnt_app, cnt_per hp k, Nat.succ_mul]
    congr 1
    exact cnt_congr fun n _ => per_mul hp k n

/-- A pair of a system. -/
def okP (p : Int × Int) : Bool := decide (1 ≤ p.2) && decide (p.2 ≤ 60) && (decide (0 ≤ p.1) && decide (p.1 < p.2))
/-- Is a list of pairs a system? -/
def isS (L : List (Int × Int)) : Bool := decide (1 ≤ L.length) && decide (L.length ≤ 10) && L.all okP && decide (wl L ≤ 10080)
theorem okP_spec {p : Int × Int} : okP p = true ↔ 1 ≤ p.2 ∧ p.2 ≤ 60 ∧ 0 ≤ p.1 ∧ p.1 < p.2 := by simp [okP]; omega
structure Sys (L : List (Int × Int)) : Prop where
  len1 : 1 ≤ L.length
  len2 : L.length ≤ 10
  ok : ∀ p ∈ L, 1 ≤ p.2 ∧ p.2 ≤ 60 ∧ 0 ≤ p.1 ∧ p.1 < p.2
  wl2 : wl L ≤ 10080
theorem isS_spec {L : List (Int × Int)} : isS L = true ↔ Sys L := by
  unfold isS
  simp only [Bool.and_eq_true, decide_eq_true_eq, List.all_eq_true]
  constructor
  · rintro ⟨⟨⟨h1, h2⟩, h3⟩, h4⟩
    exact ⟨h1, h2, fun p hp => okP_spec.1 (h3 p hp), h4⟩
  · rintro ⟨h1, h2, h3, h4⟩
    exact ⟨⟨⟨h1, h2⟩, fun p hp => okP_spec.2 (h3 p hp)⟩, h4⟩
theorem Sys.wl1 {L : List (Int × Int)} (h : Sys L) : 1 ≤ wl L := wl_pos fun p hp => (h.ok p hp).1
theorem Sys.nth {L : List (Int × Int)} (h : Sys L) {j : Nat} (hj : j < L.length) : 1 ≤ (nth L j).2 ∧ (nth L j).2 ≤ 60 ∧ 0 ≤ (nth L j).1 ∧ (nth L j).1 < (nth L j).2 := h.ok _ (nth_mem hj)

/-- What Left, Twice and Share answer of a system. -/
def leftF (L : List (Int × Int)) : Int × Int := lst (fun n => decide (tm n L = 0)) 0 (wl L)
def twiceF (L : List (Int × Int)) : Int × Int := lst (fun n => decide (1 < tm n L)) 0 (wl L)
def covF (L : List (Int × Int)) (k : Nat) : Nat := cnt (fun n => decide (0 < tm n L)) k
def numF (L : List (Int × Int)) : Int := ((covF L (wl L) / Nat.gcd (covF L (wl L)) (wl L) : Nat) : Int)
def denF (L : List (Int × Int)) : Int := ((wl L / Nat.gcd (covF L (wl L)) (wl L) : Nat) : Int)
/-- The list without one pair. -/
def wo (L : List (Int × Int)) (i : Nat) : List (Int × Int) := L.take i ++ L.drop (i + 1)
def missB (L : List (Int × Int)) (i n : Nat) : Bool := decide (0 < tm n L) && decide (tm n (wo L i) = 0)
/-- May a pair be left out? -/
def needB (L : List (Int × Int)) (i : Nat) : Bool := decide (cnt (missB L i) (wl L) = 0)
def needL (L : List (Int × Int)) (k : Nat) : List Int := ((List.range k).filter (needB L)).map fun (i : Nat) => (i : Int)
theorem needL_succ (L : List (Int × Int)) (k : Nat) : needL L (k + 1) = needL L k ++ if needB L k = true then [(k : Int)] else [] := by
  unfold needL
  rw [List.range_succ, List.filter_append, List.map_append]
  congr 1
  by_cases h : needB L k = true
  · simp [h]
  · simp [h]
theorem cnt_zero {P : Nat → Bool} : ∀ {k}, cnt P k = 0 ↔ ∀ n, n < k → P n = false
  | 0 => ⟨fun _ n h => by omega, fun _ => rfl⟩
  | k + 1 => by
    have ih := cnt_zero (P := P) (k := k)
    simp only [cnt]
    constructor
    · intro h n hn
      have hk : P k = false := by
        cases e : P k with
        | false => rfl
        | true => simp [e] at h
      by_cases e : n = k
      · subst e; exact hk
      · exact ih.1 (by omega) n (by omega)
    · intro h
      rw [ih.2 (fun n hn => h n (by omega)), h k (by omega)]; simp
theorem need_lst (L : List (Int × Int)) (i : Nat) : needB L i = true ↔ (lst (missB L i) 0 (wl L)).2 = 4 := by
  unfold needB
  rw [decide_eq_true_eq, cnt_zero, lst_four]
  exact ⟨fun h n _ hn => h n (by omega), fun h n hn => h n (by omega) (by omega)⟩

/-- The pairs that Refine puts in place of one. -/
def refL (p : Int × Int) (r : Int) (k : Nat) : List (Int × Int) := (List.range k).map fun (j : Nat) => (p.1 + (j : Int) * p.2, p.2 * r)
theorem refL_succ (p : Int × Int) (r : Int) (k : Nat) : refL p r (k + 1) = refL p r k ++ [(p.1 + (k : Int) * p.2, p.2 * r)] := by
  simp [refL, List.range_succ]
def refA (L : List (Int × Int)) (i : Nat) (r : Int) : List (Int × Int) := L.take i ++ refL (nth L i) r r.toNat ++ L.drop (i + 1)
end Go.Proofs.Ytanhjgneaaenpaa
