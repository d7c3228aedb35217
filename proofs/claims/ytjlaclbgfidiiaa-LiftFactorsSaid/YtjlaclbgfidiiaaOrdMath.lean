/- Orders at a prime: of a product, of a sum; of the numbers of a product of polynomials. Mathematics alone. -/
import Derived.Test.YtjlaclbgfidiiaaPg
import Derived.Test.YtjlaclbgfidiiaaTimes
namespace Go.Proofs.Ytjlaclbgfidiiaa

theorem ipow_add (x : Int) (a : Nat) : ∀ b : Nat, x ^ (a + b) = x ^ a * x ^ b
  | 0 => by simp
  | b + 1 => by rw [← Nat.add_assoc, Int.pow_succ, Int.pow_succ, ipow_add x a b, Int.mul_assoc]
theorem ipow_pos' {q : Int} (hq : q ≠ 0) : ∀ e : Nat, q ^ e ≠ 0
  | 0 => by simp
  | e + 1 => by rw [Int.pow_succ]; exact Int.mul_ne_zero (ipow_pos' hq e) hq
theorem ipow_pos {q : Nat} (hq : 2 ≤ q) : ∀ e : Nat, (q : Int) ^ e ≠ 0
  | 0 => by simp
  | e + 1 => by rw [Int.pow_succ]; exact Int.mul_ne_zero (ipow_pos hq e) (by omega)
/-- q divides n so often. -/
def Ord (q : Nat) (n : Int) (e : Nat) : Prop := ∃ u : Int, n = (q : Int) ^ e * u ∧ ¬ (q : Int) ∣ u
theorem ord_form {q : Nat} (hq : 2 ≤ q) : ∀ (k : Nat) (n : Int), n ≠ 0 → n.natAbs < 2 ^ k → Ord q n (ordF q k n)
  | 0, n, h0, hk => by simp at hk; exact absurd hk h0
  | k + 1, n, h0, hk => by
    by_cases hd : (q : Int) ∣ n
    · rw [ordF_yes hd]
      obtain ⟨x, hx⟩ := hd
      have hqn : (q : Int) ≠ 0 := by omega
      have he : n / (q : Int) = x := by rw [hx, Int.mul_ediv_cancel_left _ hqn]
      rw [he]
      have hx0 : x ≠ 0 := fun e => h0 (by rw [hx, e, Int.mul_zero])
      have hab : n.natAbs = q * x.natAbs := by rw [hx, Int.natAbs_mul]; rfl
      have h2 : 2 * x.natAbs ≤ q * x.natAbs := Nat.mul_le_mul_right _ hq
      rw [Nat.pow_succ] at hk
      obtain ⟨u, hu, hn⟩ := ord_form hq k x hx0 (by omega)
      refine ⟨u, ?_, hn⟩
      rw [Int.pow_succ, hx]
      conv => lhs; rw [hu]
      rw [← Int.mul_assoc, Int.mul_comm ((q : Int) ^ _) (q : Int)]
    · rw [ordF_no hd]
      exact ⟨n, by simp, hd⟩
theorem Ord.dvd {q e : Nat} {n : Int} (h : Ord q n e) {j : Nat} (hj : j ≤ e) : (q : Int) ^ j ∣ n := by
  obtain ⟨u, hu, -⟩ := h
  refine ⟨(q : Int) ^ (e - j) * u, ?_⟩
  rw [← Int.mul_assoc, ← ipow_add, show j + (e - j) = e by omega, hu]
theorem Ord.le {q e : Nat} (hq : 2 ≤ q) {n : Int} (h : Ord q n e) {j : Nat} (hd : (q : Int) ^ j ∣ n) : j ≤ e := by
  apply Decidable.byContradiction
  intro hj
  obtain ⟨u, hu, hn⟩ := h
  obtain ⟨x, hx⟩ := hd
  apply hn
  refine ⟨(q : Int) ^ (j - e - 1) * x, ?_⟩
  have h1 : (q : Int) ^ e * u = (q : Int) ^ e * ((q : Int) * ((q : Int) ^ (j - e - 1) * x)) := by
    rw [← hu, hx, show j = e + (1 + (j - e - 1)) by omega, ipow_add, ipow_add]
    simp only [Int.pow_succ, Int.pow_zero, Int.one_mul, Int.mul_assoc]
    rw [show e + (1 + (j - e - 1)) - e - 1 = j - e - 1 by omega]
  exact Int.eq_of_mul_eq_mul_left (ipow_pos hq e) h1
theorem Ord.uniq {q e e' : Nat} (hq : 2 ≤ q) {n : Int} (h : Ord q n e) (h' : Ord q n e') : e = e' :=
  Nat.le_antisymm (h'.le hq (h.dvd (Nat.le_refl _))) (h.le hq (h'.dvd (Nat.le_refl _)))
theorem Ord.ne {q e : Nat} {n : Int} (h : Ord q n e) : n ≠ 0 ∨ q = 0 := by
  obtain ⟨u, hu, hn⟩ := h
  by_cases h0 : n = 0
  · right
    rw [h0] at hu
    rcases Int.mul_eq_zero.1 hu.symm with h | h
    · have : (q : Int) = 0 := by
        apply Decidable.byContradiction
        intro hq
        exact ipow_pos' hq e h
      omega
    · exact absurd (by rw [h]; exact Int.dvd_zero _) hn
  · exact .inl h0
theorem Ord.mul {q e e' : Nat} (hq : q ∈ [2, 3, 5, 7, 11, 13]) {a b : Int} (h : Ord q a e) (h' : Ord q b e') : Ord q (a * b) (e + e') := by
  obtain ⟨u, hu, hn⟩ := h
  obtain ⟨v, hv, hm⟩ := h'
  refine ⟨u * v, ?_, fun hd => (euclid hq hd).elim hn hm⟩
  rw [hu, hv, ipow_add]
  simp only [Int.mul_assoc, Int.mul_left_comm]
theorem Ord.add {q e : Nat} {a s : Int} (h : Ord q a e) (hs : (q : Int) ^ (e + 1) ∣ s) : Ord q (a + s) e := by
  obtain ⟨u, hu, hn⟩ := h
  obtain ⟨t, ht⟩ := hs
  refine ⟨u + (q : Int) * t, ?_, fun hd => hn ?_⟩
  · rw [hu, ht, Int.pow_succ, Int.mul_add, Int.mul_assoc]
  · obtain ⟨x, hx⟩ := hd
    exact ⟨x - t, by rw [Int.mul_sub, ← hx]; omega⟩

/-- A number of a product, whose terms but one are divisible by more. -/
theorem full_dvd {f g : List Int} {t : Nat} {Q : Int} : ∀ k : Nat, (∀ i, i < k → Q ∣ rowT f g i g.length t) → Q ∣ fullT f g k t
  | 0, _ => Int.dvd_zero _
  | k + 1, h => Int.dvd_add (full_dvd k fun i hi => h i (by omega)) (h k (by omega))
theorem full_zero {f g : List Int} {t : Nat} : ∀ k : Nat, (∀ i, i < k → rowT f g i g.length t = 0) → fullT f g k t = 0
  | 0, _ => rfl
  | k + 1, h => by
    simp only [fullT]
    rw [full_zero k fun i hi => h i (by omega), h k (by omega)]
    rfl
theorem full_ord {q s : Nat} {f g : List Int} {i0 t : Nat} (h0 : Ord q (rowT f g i0 g.length t) s) : ∀ k : Nat, i0 < k → (∀ i, i < k → i ≠ i0 → (q : Int) ^ (s + 1) ∣ rowT f g i g.length t) → Ord q (fullT f g k t) s
  | 0, h, _ => absurd h (by omega)
  | k + 1, h, hd => by
    simp only [fullT]
    by_cases e : i0 = k
    · subst e
      rw [Int.add_comm]
      exact h0.add (full_dvd _ fun i hi => hd i (by omega) (by omega))
    · exact (full_ord h0 k (by omega) fun i hi => hd i (by omega)).add (hd k (by omega) (by omega))
theorem row_at {f g : List Int} {i j : Nat} (hj : j < g.length) : rowT f g i g.length (i + j) = f.getD i 0 * g.getD j 0 := by
  unfold rowT
  rw [if_pos (by omega), show i + j - i = j by omega]
theorem mulF_at {f g : List Int} {t : Nat} (h : t < f.length + g.length - 1) : (mulF f g).getD t 0 = fullT f g f.length t := by
  unfold mulF
  simp [List.getD, h]

/-- The least index of the least weight. -/
theorem argmin (wt : Nat → Int) (P : Nat → Prop) [DecidablePred P] : ∀ n : Nat, (∃ i, i < n ∧ P i) → ∃ i0, i0 < n ∧ P i0 ∧ ∀ i, i < n → P i → wt i0 ≤ wt i ∧ (i < i0 → wt i0 < wt i)
  | 0, h => by obtain ⟨i, hi, -⟩ := h; omega
  | n + 1, h => by
    by_cases hn : ∃ i, i < n ∧ P i
    · obtain ⟨i0, h1, h2, h3⟩ := argmin wt P n hn
      by_cases hb : P n ∧ wt n < wt i0
      · refine ⟨n, by omega, hb.1, fun i hi hp => ?_⟩
        by_cases e : i = n
        · subst e; exact ⟨Int.le_refl _, fun h => absurd h (by omega)⟩
        · have := (h3 i (by omega) hp).1
          exact ⟨by omega, fun _ => by omega⟩
      · refine ⟨i0, by omega, h2, fun i hi hp => ?_⟩
        by_cases e : i = n
        · subst e
          exact ⟨by have : ¬ wt i < wt i0 := fun h => hb ⟨hp, h⟩
                    omega, fun h => absurd h (by omega)⟩
        · exact h3 i (by omega) hp
    · obtain ⟨i, hi, hp⟩ := h
      have e : i = n := by
        apply Decidable.byContradiction
        intro he
        exact hn ⟨i, by omega, hp⟩
      subst e
      refine ⟨i, hi, hp, fun j hj hpj => ?_⟩
      have e2 : j = i := by
        apply Decidable.byContradiction
        intro he
        exact hn ⟨j, by omega, hpj⟩
      subst e2
      exact ⟨Int.le_refl _, fun h => absurd h (by omega)⟩
end Go.Proofs.Ytjlaclbgfidiiaa
