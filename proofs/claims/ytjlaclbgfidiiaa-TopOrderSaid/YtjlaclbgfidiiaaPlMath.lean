/- When digits come again, plainly: the rests end between -b and 0, and come again after a part of any power that is one more than a multiple of b. -/
import Derived.Test.YtjlaclbgfidiiaaDigMath
namespace Go.Proofs.Ytjlaclbgfidiiaa

theorem rs_in {q : Nat} (hq : q ∈ [2, 3, 5, 7, 11, 13]) {a b : Int} (hb : ¬ (q : Int) ∣ b) (b0 : 1 ≤ b) (a0 : -b ≤ a) (a1 : a ≤ 0) : -b ≤ nx q a b ∧ nx q a b ≤ 0 := by
  have h := nx_mul hq hb a
  obtain ⟨h1, h2⟩ := dgb hq hb b0 a
  simp only [List.mem_cons, List.not_mem_nil, or_false] at hq
  rcases hq with rfl | rfl | rfl | rfl | rfl | rfl <;> omega
theorem rs_pos {q : Nat} (hq : q ∈ [2, 3, 5, 7, 11, 13]) {a b : Int} (hb : ¬ (q : Int) ∣ b) (b0 : 1 ≤ b) (a0 : 0 < a) : -b ≤ nx q a b ∧ nx q a b < a := by
  have h := nx_mul hq hb a
  obtain ⟨h1, h2⟩ := dgb hq hb b0 a
  simp only [List.mem_cons, List.not_mem_nil, or_false] at hq
  rcases hq with rfl | rfl | rfl | rfl | rfl | rfl <;> omega
theorem rs_neg {q : Nat} (hq : q ∈ [2, 3, 5, 7, 11, 13]) {a b : Int} (hb : ¬ (q : Int) ∣ b) (b0 : 1 ≤ b) (a0 : a < -b) : nx q a b ≤ 0 ∧ a < nx q a b := by
  have h := nx_mul hq hb a
  obtain ⟨h1, h2⟩ := dgb hq hb b0 a
  simp only [List.mem_cons, List.not_mem_nil, or_false] at hq
  rcases hq with rfl | rfl | rfl | rfl | rfl | rfl <;> omega
theorem rs_late {q : Nat} (hq : q ∈ [2, 3, 5, 7, 11, 13]) {a b : Int} (hb : ¬ (q : Int) ∣ b) (b0 : 1 ≤ b) (a0 : -1000 ≤ a) (a1 : a ≤ 1000) : ∀ n : Nat, (-b ≤ rs q a b n ∧ rs q a b n ≤ 0) ∨ (0 < rs q a b n ∧ rs q a b n ≤ 1000 - (n : Int)) ∨ (rs q a b n < -b ∧ -1000 + (n : Int) ≤ rs q a b n)
  | 0 => by simp only [rs]; omega
  | n + 1 => by
    have ih := rs_late hq hb b0 a0 a1 n
    simp only [rs]
    rcases ih with ⟨h1, h2⟩ | ⟨h1, h2⟩ | ⟨h1, h2⟩
    · exact .inl (rs_in hq hb b0 h1 h2)
    · have := rs_pos hq hb b0 h1
      omega
    · have := rs_neg hq hb b0 h1
      omega
theorem rs_add {q : Nat} {a b : Int} (i : Nat) : ∀ j : Nat, rs q a b (i + j) = rs q (rs q a b i) b j
  | 0 => rfl
  | j + 1 => by
    show nx q (rs q a b (i + j)) b = nx q (rs q (rs q a b i) b j) b
    rw [rs_add i j]
theorem rs_again {q : Nat} {a b : Int} {s t : Nat} (h : rs q a b s = rs q a b (s + t)) (i : Nat) : rs q a b (s + t + i) = rs q a b (s + i) := by
  rw [rs_add (s + t) i, ← h, ← rs_add s i]
theorem rs_times {q : Nat} {a b : Int} {s t : Nat} (h : rs q a b s = rs q a b (s + t)) : ∀ (m i : Nat), rs q a b (s + i + m * t) = rs q a b (s + i)
  | 0, i => by simp
  | m + 1, i => by
    have := rs_again h (i + m * t)
    rw [show s + i + (m + 1) * t = s + t + (i + m * t) by rw [Nat.add_mul]; omega, this, show s + (i + m * t) = s + i + m * t by omega, rs_times h m i]
theorem rs_cycle {q : Nat} (hq : q ∈ [2, 3, 5, 7, 11, 13]) {a b : Int} (hb : ¬ (q : Int) ∣ b) (b0 : 1 ≤ b) (a0 : -1000 ≤ a) (a1 : a ≤ 1000) {s t : Nat} (ht : 1 ≤ t) (h : rs q a b s = rs q a b (s + t)) : -b ≤ rs q a b s ∧ rs q a b s ≤ 0 := by
  have h1 := rs_times h 1001 0
  rw [Nat.add_zero] at h1
  have h2 := rs_late hq hb b0 a0 a1 (s + 1001 * t)
  rw [h1] at h2
  have h3 : 1001 ≤ s + 1001 * t := by omega
  omega
theorem rs_pow {q : Nat} (hq : q ∈ [2, 3, 5, 7, 11, 13]) {a b : Int} (hb : ¬ (q : Int) ∣ b) : ∀ n : Nat, b ∣ (q : Int) ^ n * rs q a b n - a
  | 0 => ⟨0, by simp [rs]⟩
  | n + 1 => by
    obtain ⟨k, hk⟩ := rs_pow hq hb (a := a) n
    have h := nx_mul hq hb (rs q a b n)
    refine ⟨k - (q : Int) ^ n * (dg q (rs q a b n) b : Int), ?_⟩
    rw [Int.pow_succ]
    simp only [rs]
    have e : (q : Int) ^ n * (q : Int) * nx q (rs q a b n) b = (q : Int) ^ n * ((q : Int) * nx q (rs q a b n) b) := by rw [Int.mul_assoc]
    rw [e, h]
    grind
theorem rs_zero {q : Nat} (hq : q ∈ [2, 3, 5, 7, 11, 13]) {b : Int} (hb : ¬ (q : Int) ∣ b) : dg q 0 b = 0 ∧ nx q 0 b = 0 := by
  have h2 := (pr_bounds hq).1
  have h : (0 : Int) = (dg q 0 b : Int) := dg_uniq hq hb (by omega) (by omega) ⟨0, by simp⟩
  have h3 := nx_mul hq hb 0
  refine ⟨by omega, ?_⟩
  rw [← h] at h3
  have h4 : (q : Int) * nx q 0 b = 0 := by rw [h3]; simp
  rcases Int.mul_eq_zero.1 h4 with h | h
  · omega
  · exact h
theorem rs_minus {q : Nat} (hq : q ∈ [2, 3, 5, 7, 11, 13]) {b : Int} (hb : ¬ (q : Int) ∣ b) : (dg q (-b) b : Int) = (q : Int) - 1 ∧ nx q (-b) b = -b := by
  have h2 := (pr_bounds hq).1
  have h : (q : Int) - 1 = (dg q (-b) b : Int) := dg_uniq hq hb (by omega) (by omega) ⟨-b, by rw [Int.sub_mul, Int.mul_neg]; omega⟩
  have h3 := nx_mul hq hb (-b)
  refine ⟨h.symm, ?_⟩
  rw [← h] at h3
  have h4 : (q : Int) * nx q (-b) b = (q : Int) * (-b) := by rw [h3, Int.sub_mul, Int.mul_neg]; omega
  exact Int.eq_of_mul_eq_mul_left (by omega) h4
theorem rs_zeros {q : Nat} (hq : q ∈ [2, 3, 5, 7, 11, 13]) {b : Int} (hb : ¬ (q : Int) ∣ b) : ∀ n, rs q 0 b n = 0
  | 0 => rfl
  | n + 1 => by show nx q (rs q 0 b n) b = 0; rw [rs_zeros hq hb n, (rs_zero hq hb).2]
theorem rs_minuses {q : Nat} (hq : q ∈ [2, 3, 5, 7, 11, 13]) {b : Int} (hb : ¬ (q : Int) ∣ b) : ∀ n, rs q (-b) b n = -b
  | 0 => rfl
  | n + 1 => by show nx q (rs q (-b) b n) b = -b; rw [rs_minuses hq hb n, (rs_minus hq hb).2]
theorem rs_in_all {q : Nat} (hq : q ∈ [2, 3, 5, 7, 11, 13]) {a b : Int} (hb : ¬ (q : Int) ∣ b) (b0 : 1 ≤ b) (a0 : -b ≤ a) (a1 : a ≤ 0) : ∀ n, -b ≤ rs q a b n ∧ rs q a b n ≤ 0
  | 0 => ⟨a0, a1⟩
  | n + 1 => by
    have ih := rs_in_all hq hb b0 a0 a1 n
    exact rs_in hq hb b0 ih.1 ih.2
/-- After a power that is one more than a multiple of b the rests are the same. -/
theorem rs_order {q : Nat} (hq : q ∈ [2, 3, 5, 7, 11, 13]) {c b : Int} (hb : ¬ (q : Int) ∣ b) (b0 : 1 ≤ b) (c0 : -b ≤ c) (c1 : c ≤ 0) {e : Nat} (he : b ∣ (q : Int) ^ e - 1) : rs q c b e = c := by
  obtain ⟨x0, x1⟩ := rs_in_all hq hb b0 c0 c1 e
  have h1 := rs_pow hq hb (a := c) e
  have h2 : b ∣ rs q c b e - c := by
    have h3 : b ∣ ((q : Int) ^ e - 1) * rs q c b e := Int.dvd_mul_of_dvd_left he
    have h4 := Int.dvd_sub h1 h3
    rwa [show (q : Int) ^ e * rs q c b e - c - ((q : Int) ^ e - 1) * rs q c b e = rs q c b e - c by rw [Int.sub_mul]; omega] at h4
  by_cases hz : c = 0
  · rw [hz, rs_zeros hq hb]
  by_cases hm : c = -b
  · rw [hm, rs_minuses hq hb]
  obtain ⟨k, hk⟩ := h2
  have hk0 : k = 0 := by
    rcases Int.lt_trichotomy k 0 with h | h | h
    · have : b * k ≤ b * (-1) := Int.mul_le_mul_of_nonneg_left (by omega) (by omega)
      omega
    · exact h
    · have : b * 1 ≤ b * k := Int.mul_le_mul_of_nonneg_left (by omega) (by omega)
      omega
  rw [hk0, Int.mul_zero] at hk
  omega
theorem ag_divides {q : Nat} (hq : q ∈ [2, 3, 5, 7, 11, 13]) {a b : Int} (hb : ¬ (q : Int) ∣ b) (b0 : 1 ≤ b) (a0 : -1000 ≤ a) (a1 : a ≤ 1000) {s t : Nat} (h : IsAg q a b s t) {e : Nat} (he : b ∣ (q : Int) ^ e - 1) : e % t = 0 := by
  obtain ⟨c0, c1⟩ := rs_cycle hq hb b0 a0 a1 h.pos h.eq
  have h1 := rs_order hq hb b0 c0 c1 he
  rw [← rs_add] at h1
  have ht := h.pos
  have h2 := rs_times h.eq (e / t) (e % t)
  have h3 : s + e % t + e / t * t = s + e := by have := Nat.mod_add_div e t; rw [Nat.mul_comm] at this; omega
  rw [h3, h1] at h2
  apply Decidable.byContradiction
  intro h0
  exact h.ne s (s + e % t) (by omega) (by have := Nat.mod_lt e (show t > 0 by omega); omega) h2
theorem dvd_cancel {q : Nat} (hq : q ∈ [2, 3, 5, 7, 11, 13]) {b : Int} (hb : ¬ (q : Int) ∣ b) {x : Int} (h : b ∣ (q : Int) * x) : b ∣ x := by
  have h2 := (pr_bounds hq).1
  obtain ⟨y, hy⟩ := h
  have h3 : (q : Int) ∣ b * y := ⟨x, hy.symm⟩
  obtain ⟨z, hz⟩ := (euclid hq h3).resolve_left hb
  refine ⟨z, Int.eq_of_mul_eq_mul_left (show (q : Int) ≠ 0 by omega) ?_⟩
  rw [hy, hz]
  grind
theorem dvd_cancel_pow {q : Nat} (hq : q ∈ [2, 3, 5, 7, 11, 13]) {b : Int} (hb : ¬ (q : Int) ∣ b) {x : Int} : ∀ i : Nat, b ∣ (q : Int) ^ i * x → b ∣ x
  | 0, h => by simpa using h
  | i + 1, h => dvd_cancel_pow hq hb i (dvd_cancel hq hb (by rw [Int.pow_succ] at h; rwa [show (q : Int) * ((q : Int) ^ i * x) = (q : Int) ^ i * (q : Int) * x by grind]))
theorem pigeonB {f : Nat → Int} {n b : Nat} (hf : ∀ i, i < n → 0 ≤ f i ∧ f i < (b : Int)) (hi : ∀ i j, i < j → j < n → f i ≠ f j) : n ≤ b := by
  have h := pigeonN b ((List.range n).map fun i => (f i).toNat) ?_ ?_
  · simpa using h
  · rw [List.nodup_iff_pairwise_ne, List.pairwise_map]
    refine List.Pairwise.imp_of_mem ?_ List.pairwise_lt_range
    intro i j hi' hj' hij
    have hi1 := List.mem_range.1 hi'
    have hj1 := List.mem_range.1 hj'
    have := hi i j hij hj1
    have := hf i hi1
    have := hf j hj1
    omega
  · intro x hx
    obtain ⟨i, hi', rfl⟩ := List.mem_map.1 hx
    have := hf i (List.mem_range.1 hi')
    omega
theorem order_ex {q : Nat} (hq : q ∈ [2, 3, 5, 7, 11, 13]) {b : Int} (hb : ¬ (q : Int) ∣ b) (b0 : 1 ≤ b) : ∃ e : Nat, 1 ≤ e ∧ (e : Int) ≤ b ∧ b ∣ (q : Int) ^ e - 1 := by
  obtain ⟨B, rfl⟩ : ∃ B : Nat, b = (B : Int) := ⟨b.toNat, by omega⟩
  have hno : ¬ ∀ i j, i < j → j < B + 1 → (q : Int) ^ i % (B : Int) ≠ (q : Int) ^ j % (B : Int) := by
    intro h
    have := pigeonB (f := fun i => (q : Int) ^ i % (B : Int)) (n := B + 1) (b := B) (fun i _ => ⟨Int.emod_nonneg _ (by omega), Int.emod_lt_of_pos _ (by omega)⟩) h
    omega
  have hex : ∃ i j, i < j ∧ j < B + 1 ∧ (q : Int) ^ i % (B : Int) = (q : Int) ^ j % (B : Int) := by
    apply Classical.byContradiction
    intro hc
    exact hno fun i j h1 h2 h3 => hc ⟨i, j, h1, h2, h3⟩
  obtain ⟨i, j, h1, h2, h3⟩ := hex
  refine ⟨j - i, by omega, by omega, dvd_cancel_pow hq hb i ?_⟩
  have h4 : (B : Int) ∣ (q : Int) ^ j - (q : Int) ^ i := Int.dvd_of_emod_eq_zero (Int.emod_eq_emod_iff_emod_sub_eq_zero.1 h3.symm)
  rwa [show (q : Int) ^ j - (q : Int) ^ i = (q : Int) ^ i * ((q : Int) ^ (j - i) - 1) by
    rw [Int.mul_sub, ← Int.pow_add, show i + (j - i) = j by omega]; omega] at h4
theorem ag_small {q : Nat} (hq : q ∈ [2, 3, 5, 7, 11, 13]) {a b : Int} (hb : ¬ (q : Int) ∣ b) (b0 : 1 ≤ b) (b1 : b ≤ 1000) (a0 : -1000 ≤ a) (a1 : a ≤ 1000) {s t : Nat} (h : IsAg q a b s t) : s ≤ 2000 ∧ t ≤ 1000 := by
  have h1 := pigeon (f := rs q a b) (n := s + t) (fun i _ => rs_bound hq hb b0 b1 a0 a1 i) h.ne
  have h2 := h.pos
  obtain ⟨e, e1, e2, he⟩ := order_ex hq hb b0
  have h3 := ag_divides hq hb b0 a0 a1 h he
  have h4 := Nat.le_of_dvd (by omega) (Nat.dvd_of_mod_eq_zero h3)
  omega
theorem rs_whole {q : Nat} (hq : q ∈ [2, 3, 5, 7, 11, 13]) {a : Int} (a0 : 0 ≤ a) (a1 : a ≤ 1000) : ∀ n : Nat, 0 ≤ rs q a 1 n ∧ 2 ^ n * rs q a 1 n ≤ 1000
  | 0 => by simp [rs]; omega
  | n + 1 => by
    have h2 := pr_bounds hq
    have hb : ¬ (q : Int) ∣ 1 := fun h => by have := Int.le_of_dvd (by omega) h; omega
    obtain ⟨i0, i1⟩ := rs_whole hq a0 a1 n
    have h := nx_mul hq hb (rs q a 1 n)
    have hd := (dg_spec hq hb (rs q a 1 n)).1
    rw [Int.mul_one] at h
    have h3 : 0 ≤ nx q (rs q a 1 n) 1 := by
      apply Decidable.byContradiction
      intro hc
      have : (q : Int) * nx q (rs q a 1 n) 1 ≤ (q : Int) * (-1) := Int.mul_le_mul_of_nonneg_left (by omega) (by omega)
      omega
    have h4 : 2 * nx q (rs q a 1 n) 1 ≤ rs q a 1 n := by
      have : 2 * nx q (rs q a 1 n) 1 ≤ (q : Int) * nx q (rs q a 1 n) 1 := Int.mul_le_mul_of_nonneg_right (by omega) h3
      omega
    refine ⟨h3, ?_⟩
    show 2 ^ (n + 1) * nx q (rs q a 1 n) 1 ≤ 1000
    have h5 : (2 : Int) ^ n * (2 * nx q (rs q a 1 n) 1) ≤ 2 ^ n * rs q a 1 n := Int.mul_le_mul_of_nonneg_left h4 (Int.pow_nonneg (by omega))
    rw [Int.pow_succ, Int.mul_assoc]
    omega
theorem dig_last {q : Nat} (hq : q ∈ [2, 3, 5, 7, 11, 13]) {a : Int} (a0 : 0 ≤ a) (a1 : a ≤ 1000) : dg q (rs q a 1 39) 1 = 0 := by
  have h2 := pr_bounds hq
  have hb : ¬ (q : Int) ∣ 1 := fun h => by have := Int.le_of_dvd (by omega) h; omega
  obtain ⟨i0, i1⟩ := rs_whole hq a0 a1 39
  have : rs q a 1 39 = 0 := by
    have h3 : (2 : Int) ^ 39 = 549755813888 := by decide
    rw [h3] at i1
    omega
  rw [this, (rs_zero hq hb).1]
theorem ag_minus {q : Nat} (hq : q ∈ [2, 3, 5, 7, 11, 13]) {b : Int} (hb : ¬ (q : Int) ∣ b) : IsAg q (-b) b 0 1 :=
  ⟨Nat.le_refl 1, by rw [rs_minuses hq hb, rs_minuses hq hb], fun i j h1 h2 => by omega⟩
end Go.Proofs.Ytjlaclbgfidiiaa
