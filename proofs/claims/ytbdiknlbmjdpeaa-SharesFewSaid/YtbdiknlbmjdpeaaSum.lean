/- Sums of unit fractions by what is left of the numerator, exactly and modulo five primes. No condition. -/
import Derived.Test.YtbdiknlbmjdpeaaGreedy
namespace Go.Proofs.Ytbdiknlbmjdpeaa
/-- What is left of num / den, less the unit fractions, as a numerator over the product. -/
def numF : Int → Int → List Int → Int
  | num, _, [] => num
  | num, den, d :: t => numF (num * d - den) (den * d) t
def denF : Int → List Int → Int
  | den, [] => den
  | den, d :: t => denF (den * d) t
theorem numF_snoc (d : Int) : ∀ (l : List Int) (num den : Int), numF num den (l ++ [d]) = numF num den l * d - denF den l
  | [], num, den => rfl
  | e :: t, num, den => by simp only [List.cons_append, numF, denF]; rw [numF_snoc d t]
theorem denF_snoc (d : Int) : ∀ (l : List Int) (den : Int), denF den (l ++ [d]) = denF den l * d
  | [], den => rfl
  | e :: t, den => by simp only [List.cons_append, denF]; rw [denF_snoc d t]
theorem numF_neg : ∀ (l : List Int) (num den : Int), num < 0 → 0 < den → (∀ x ∈ l, 1 ≤ x) → numF num den l < 0
  | [], num, den, h, _, _ => h
  | d :: t, num, den, h, h2, hx => by
    have hd : 1 ≤ d := hx d (List.mem_cons_self ..)
    refine numF_neg t _ _ ?_ (Int.mul_pos h2 (by omega)) (fun x hx' => hx x (List.mem_cons_of_mem _ hx'))
    have : num * d < 0 := Int.mul_neg_of_neg_of_pos h (by omega)
    omega
def natsI (l : List Nat) : List Int := l.map fun (n : Nat) => (n : Int)
theorem numF_isum : ∀ (L : List Nat) (num den : Nat), 0 < den → (∀ x ∈ L, 1 ≤ x) → (decide (numF (num : Int) (den : Int) (natsI L) = 0)) = isum num den L
  | [], num, den, _, _ => by
    unfold isum numF natsI
    rw [Bool.eq_iff_iff]
    simp
    try omega
  | d :: t, num, den, hd, hx => by
    have h1 : 1 ≤ d := hx d (List.mem_cons_self ..)
    have ht : ∀ x ∈ t, 1 ≤ x := fun x hx' => hx x (List.mem_cons_of_mem _ hx')
    have e : numF (num : Int) (den : Int) (natsI (d :: t)) = numF ((num : Int) * (d : Int) - (den : Int)) ((den : Int) * (d : Int)) (natsI t) := rfl
    rw [e]
    unfold isum
    by_cases h : den ≤ num * d
    · rw [decide_eq_true h, Bool.true_and, ← numF_isum t (num * d - den) (den * d) (Nat.mul_pos hd h1) ht]
      have e1 : (num : Int) * (d : Int) - (den : Int) = ((num * d - den : Nat) : Int) := by rw [Int.natCast_sub h, Int.natCast_mul]
      have e2 : (den : Int) * (d : Int) = ((den * d : Nat) : Int) := by rw [Int.natCast_mul]
      rw [e1, e2]
    · rw [decide_eq_false h, Bool.false_and]
      have hn : numF ((num : Int) * (d : Int) - (den : Int)) ((den : Int) * (d : Int)) (natsI t) < 0 := by
        apply numF_neg
        · rw [← Int.natCast_mul]; omega
        · exact Int.mul_pos (by omega) (by omega)
        · intro x hx'
          obtain ⟨n, hn, rfl⟩ := List.mem_map.1 hx'
          have := ht n hn
          omega
      exact decide_eq_false (by omega)
theorem numF_abs : ∀ (l : List Int) (num den : Int) (A B : Nat), num.natAbs ≤ A → den.natAbs ≤ B → (∀ x ∈ l, x.natAbs ≤ 1000000) → (numF num den l).natAbs ≤ (A + l.length * B) * 1000000 ^ l.length
  | [], num, den, A, B, h, _, _ => by simpa [numF] using h
  | d :: t, num, den, A, B, h, h2, hx => by
    have hd := hx d (List.mem_cons_self ..)
    have e1 : (num * d - den).natAbs ≤ (A + B) * 1000000 := by
      have g1 : (num * d).natAbs ≤ A * 1000000 := by rw [Int.natAbs_mul]; exact Nat.mul_le_mul h hd
      have g2 : (A + B) * 1000000 = A * 1000000 + B * 1000000 := Nat.add_mul _ _ _
      omega
    have e2 : (den * d).natAbs ≤ B * 1000000 := by rw [Int.natAbs_mul]; exact Nat.mul_le_mul h2 hd
    have ih := numF_abs t _ _ _ _ e1 e2 (fun x hx' => hx x (List.mem_cons_of_mem _ hx'))
    refine Nat.le_trans ih (Nat.le_of_eq ?_)
    rw [List.length_cons, Nat.pow_succ]
    have : (A + B) * 1000000 + t.length * (B * 1000000) = (A + (t.length + 1) * B) * 1000000 := by
      rw [← Nat.mul_assoc, ← Nat.add_mul]
      congr 1
      rw [Nat.add_mul, Nat.one_mul]; omega
    rw [this, Nat.mul_assoc, Nat.mul_comm 1000000]
/-- The five primes. -/
def prim (k : Nat) : Nat := [1000000000039, 1000000000061, 1000000000063, 1000000000091, 1000000000121].getD k 0
theorem prim_range {k : Nat} (h : k < 5) : 1000000000000 < prim k ∧ prim k ≤ 1000000000121 := by
  match k, h with
  | 0, _ => decide
  | 1, _ => decide
  | 2, _ => decide
  | 3, _ => decide
  | 4, _ => decide
theorem dvd_five {n : Nat} (h : ∀ k, k < 5 → prim k ∣ n) (hn : n < 10 ^ 60) : n = 0 := by
  have h0 := h 0 (by omega)
  have h1 := h 1 (by omega)
  have h2 := h 2 (by omega)
  have h3 := h 3 (by omega)
  have h4 := h 4 (by omega)
  have c1 : Nat.Coprime (prim 0) (prim 1) := by decide +kernel
  have d1 := Nat.Coprime.mul_dvd_of_dvd_of_dvd c1 h0 h1
  have c2 : Nat.Coprime (prim 0 * prim 1) (prim 2) := by decide +kernel
  have d2 := Nat.Coprime.mul_dvd_of_dvd_of_dvd c2 d1 h2
  have c3 : Nat.Coprime (prim 0 * prim 1 * prim 2) (prim 3) := by decide +kernel
  have d3 := Nat.Coprime.mul_dvd_of_dvd_of_dvd c3 d2 h3
  have c4 : Nat.Coprime (prim 0 * prim 1 * prim 2 * prim 3) (prim 4) := by decide +kernel
  have d4 := Nat.Coprime.mul_dvd_of_dvd_of_dvd c4 d3 h4
  rcases Nat.eq_zero_or_pos n with e | e
  · exact e
  · have := Nat.le_of_dvd e d4
    have h5 : (10 : Nat) ^ 60 ≤ prim 0 * prim 1 * prim 2 * prim 3 * prim 4 := by decide +kernel
    omega
/-- The list is one that Check looks at: rising above a number, none above 10^6. -/
def accF : Int → List Int → Bool
  | _, [] => true
  | p, d :: t => decide (p < d) && decide (d ≤ 1000000) && accF d t
def accI (l : List Int) : Bool := decide (l.length ≤ 8) && accF 1 l
theorem accF_mem : ∀ (l : List Int) (p : Int), accF p l = true → ∀ x ∈ l, p < x ∧ x ≤ 1000000
  | [], _, _, x, hx => by cases hx
  | d :: t, p, h, x, hx => by
    simp only [accF, Bool.and_eq_true, decide_eq_true_eq] at h
    rcases List.mem_cons.1 hx with rfl | hx
    · exact h.1
    · have := accF_mem t d h.2 x hx; omega
/-- Modulo the five primes is enough. -/
theorem num_zero {l : List Int} {a b : Int} (h : accI l = true) (ha : 0 ≤ a ∧ a ≤ 60) (hb : 0 ≤ b ∧ b ≤ 60) (hp : ∀ k, k < 5 → ((prim k : Nat) : Int) ∣ numF a b l) : numF a b l = 0 := by
  unfold accI at h
  simp only [Bool.and_eq_true, decide_eq_true_eq] at h
  have hm := accF_mem l 1 h.2
  have hab := numF_abs l a b 60 60 (by omega) (by omega) (fun x hx => by have := hm x hx; omega)
  have hlt : (numF a b l).natAbs < 10 ^ 60 := by
    refine Nat.lt_of_le_of_lt hab ?_
    refine Nat.lt_of_le_of_lt (Nat.mul_le_mul (show 60 + l.length * 60 ≤ 540 by omega) (Nat.pow_le_pow_right (by decide) h.1)) (by decide +kernel)
  have := dvd_five (fun k hk => Int.ofNat_dvd_left.1 (hp k hk)) hlt
  omega
/-- Two numerators that are the same modulo p, step by step. -/
theorem mod_step {p u v N D d X Y : Int} (h1 : p ∣ u - N) (h2 : p ∣ v - D) (hX : (u * d - v).tmod p = X) (hY : (v * d).tmod p = Y) : p ∣ X - (N * d - D) ∧ p ∣ Y - D * d := by
  have e1 : p ∣ (u * d - v) - X := by rw [← hX]; exact Int.dvd_self_sub_tmod
  have e2 : p ∣ v * d - Y := by rw [← hY]; exact Int.dvd_self_sub_tmod
  obtain ⟨a, ha⟩ := h1
  obtain ⟨b, hb⟩ := h2
  obtain ⟨c, hc⟩ := e1
  obtain ⟨e, he⟩ := e2
  refine ⟨⟨a * d - b - c, ?_⟩, ⟨b * d - e, ?_⟩⟩
  · have : X = u * d - v - p * c := by omega
    rw [this]
    have h3 : u = N + p * a := by omega
    have h4 : v = D + p * b := by omega
    rw [h3, h4]
    grind
  · have : Y = v * d - p * e := by omega
    rw [this]
    have h4 : v = D + p * b := by omega
    rw [h4]
    grind
end Go.Proofs.Ytbdiknlbmjdpeaa
