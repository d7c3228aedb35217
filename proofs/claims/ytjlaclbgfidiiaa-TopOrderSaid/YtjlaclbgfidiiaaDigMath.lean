/- Digits of fractions, plainly: the first digit, the rest, and from where on rests come again. -/
import Derived.Test.YtjlaclbgfidiiaaTeich
namespace Go.Proofs.Ytjlaclbgfidiiaa

/-- The first digit of a / b. -/
def dg (q : Nat) (a b : Int) : Nat := ((List.range q).find? fun d : Nat => decide ((a - (d : Int) * b) % (q : Int) = 0)).getD 0
/-- The rest. -/
def nx (q : Nat) (a b : Int) : Int := (a - (dg q a b : Int) * b) / (q : Int)
/-- The rests, one after another. -/
def rs (q : Nat) (a b : Int) : Nat → Int
  | 0 => a
  | n + 1 => nx q (rs q a b n) b
theorem dg_spec {q : Nat} (hq : q ∈ [2, 3, 5, 7, 11, 13]) {b : Int} (hb : ¬ (q : Int) ∣ b) (a : Int) : dg q a b < q ∧ (q : Int) ∣ a - (dg q a b : Int) * b := by
  have h2 := (pr_bounds hq).1
  obtain ⟨u, hu⟩ := inv_ex hq hb
  have hex : ∃ d, d < q ∧ (a - (d : Int) * b) % (q : Int) = 0 := by
    have e0 := Int.emod_nonneg (a * u) (show (q : Int) ≠ 0 by omega)
    have e1 := Int.emod_lt_of_pos (a * u) (show (0 : Int) < (q : Int) by omega)
    refine ⟨(a * u % (q : Int)).toNat, by omega, Int.emod_eq_zero_of_dvd ?_⟩
    rw [Int.toNat_of_nonneg e0]
    obtain ⟨s, hs⟩ := emod_sub_dvd (a * u) (q : Int)
    obtain ⟨t, ht⟩ := hu
    refine ⟨-(s * b) - a * t, ?_⟩
    have : a * u % (q : Int) = a * u + (q : Int) * s := by omega
    rw [this]
    grind
  unfold dg
  cases hf : (List.range q).find? fun d : Nat => decide ((a - (d : Int) * b) % (q : Int) = 0) with
  | none =>
    obtain ⟨d, hd, he⟩ := hex
    have := (List.find?_eq_none.1 hf) d (List.mem_range.2 hd)
    simp [he] at this
  | some d =>
    have h1 := List.find?_some hf
    have h3 := List.mem_of_find?_eq_some hf
    rw [decide_eq_true_iff] at h1
    exact ⟨List.mem_range.1 h3, Int.dvd_of_emod_eq_zero h1⟩
theorem dg_uniq {q : Nat} (hq : q ∈ [2, 3, 5, 7, 11, 13]) {b : Int} (hb : ¬ (q : Int) ∣ b) {a d : Int} (d0 : 0 ≤ d) (d1 : d < (q : Int)) (h : (q : Int) ∣ a - d * b) : d = (dg q a b : Int) := by
  obtain ⟨h1, h2⟩ := dg_spec hq hb a
  refine small_dvd (m := (q : Int)) ?_ d0 d1 (by omega) (by omega)
  have h3 := Int.dvd_sub h2 h
  rw [show a - (dg q a b : Int) * b - (a - d * b) = (d - (dg q a b : Int)) * b by rw [Int.sub_mul]; omega] at h3
  exact (euclid hq h3).resolve_right hb
theorem nx_mul {q : Nat} (hq : q ∈ [2, 3, 5, 7, 11, 13]) {b : Int} (hb : ¬ (q : Int) ∣ b) (a : Int) : (q : Int) * nx q a b = a - (dg q a b : Int) * b :=
  Int.mul_ediv_cancel' (dg_spec hq hb a).2
theorem nx_tdiv {q : Nat} (hq : q ∈ [2, 3, 5, 7, 11, 13]) {b : Int} (hb : ¬ (q : Int) ∣ b) (a : Int) : (a - (dg q a b : Int) * b).tdiv (q : Int) = nx q a b := by
  have h2 := (pr_bounds hq).1
  rw [← nx_mul hq hb a, Int.mul_tdiv_cancel_left _ (by omega)]
theorem dgb {q : Nat} (hq : q ∈ [2, 3, 5, 7, 11, 13]) {b : Int} (hb : ¬ (q : Int) ∣ b) (b0 : 1 ≤ b) (a : Int) : 0 ≤ (dg q a b : Int) * b ∧ (dg q a b : Int) * b ≤ ((q : Int) - 1) * b := by
  have h1 := (dg_spec hq hb a).1
  exact ⟨Int.mul_nonneg (by omega) (by omega), Int.mul_le_mul_of_nonneg_right (by omega) (by omega)⟩
theorem nx_bound {q : Nat} (hq : q ∈ [2, 3, 5, 7, 11, 13]) {a b : Int} (hb : ¬ (q : Int) ∣ b) (b0 : 1 ≤ b) (b1 : b ≤ 1000) (a0 : -1000 ≤ a) (a1 : a ≤ 1000) : -1000 ≤ nx q a b ∧ nx q a b ≤ 1000 := by
  have h := nx_mul hq hb a
  obtain ⟨h1, h2⟩ := dgb hq hb b0 a
  simp only [List.mem_cons, List.not_mem_nil, or_false] at hq
  rcases hq with rfl | rfl | rfl | rfl | rfl | rfl <;> omega
theorem rs_bound {q : Nat} (hq : q ∈ [2, 3, 5, 7, 11, 13]) {a b : Int} (hb : ¬ (q : Int) ∣ b) (b0 : 1 ≤ b) (b1 : b ≤ 1000) (a0 : -1000 ≤ a) (a1 : a ≤ 1000) : ∀ n, -1000 ≤ rs q a b n ∧ rs q a b n ≤ 1000
  | 0 => ⟨a0, a1⟩
  | n + 1 => by
    have := rs_bound hq hb b0 b1 a0 a1 n
    exact nx_bound hq hb b0 b1 this.1 this.2

theorem pigeonN : ∀ (N : Nat) (l : List Nat), l.Nodup → (∀ x ∈ l, x < N) → l.length ≤ N
  | 0, l, _, h => by
    cases l with
    | nil => exact Nat.le_refl _
    | cons x t => exact absurd (h x (by simp)) (by omega)
  | N + 1, l, hn, h => by
    have h1 := pigeonN N (l.erase N) (hn.erase N) (fun x hx => by
      have h2 := hn.mem_erase_iff.1 hx
      have := h x h2.2
      have := h2.1
      omega)
    have h3 : l.length ≤ (l.erase N).length + 1 := by
      rw [List.length_erase]
      split <;> omega
    omega
theorem pigeon {f : Nat → Int} {n : Nat} (hf : ∀ i, i < n → -1000 ≤ f i ∧ f i ≤ 1000) (hi : ∀ i j, i < j → j < n → f i ≠ f j) : n ≤ 2001 := by
  have h := pigeonN 2001 ((List.range n).map fun i => (f i + 1000).toNat) ?_ ?_
  · simpa using h
  · rw [List.nodup_iff_pairwise_ne, List.pairwise_map]
    refine List.Pairwise.imp_of_mem ?_ List.pairwise_lt_range
    intro i j hi' hj' hij
    have hi1 := List.mem_range.1 hi'
    have hj1 := List.mem_range.1 hj'
    have := hi i j hij hj1
    have := hf i hi1
    have := hf j hj1
    omega
  · intro x hx
    obtain ⟨i, hi', rfl⟩ := List.mem_map.1 hx
    have := hf i (List.mem_range.1 hi')
    omega
/-- From s on, after t, and neither is less. -/
structure IsAg (q : Nat) (a b : Int) (s t : Nat) : Prop where
  pos : 1 ≤ t
  eq : rs q a b s = rs q a b (s + t)
  ne : ∀ i j, i < j → j < s + t → rs q a b i ≠ rs q a b j
theorem IsAg.uniq {q : Nat} {a b : Int} {s t s' t' : Nat} (h : IsAg q a b s t) (h' : IsAg q a b s' t') : s = s' ∧ t = t' := by
  have h1 := h.pos
  have h2 := h'.pos
  have hn : s + t = s' + t' := by
    rcases Nat.lt_trichotomy (s + t) (s' + t') with g | g | g
    · exact absurd h.eq (h'.ne s (s + t) (by omega) g)
    · exact g
    · exact absurd h'.eq (h.ne s' (s' + t') (by omega) g)
  have he : rs q a b s = rs q a b s' := by rw [h.eq, h'.eq, hn]
  rcases Nat.lt_trichotomy s s' with g | g | g
  · exact absurd he (h.ne s s' g (by omega))
  · exact ⟨g, by omega⟩
  · exact absurd he.symm (h.ne s' s g (by omega))
end Go.Proofs.Ytjlaclbgfidiiaa
