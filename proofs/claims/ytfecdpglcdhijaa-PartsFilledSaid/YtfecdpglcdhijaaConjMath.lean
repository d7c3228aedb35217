/- Plain numbers for the columns of a partition: they are a partition, whose columns are the partition, with the same square and the opposite rank. No condition beyond those that each theorem names. -/
import Derived.Test.YtfecdpglcdhijaaMath
namespace Go.Proofs.Ytfecdpglcdhijaa

theorem over_zero {c : Int} : ∀ {l : List Int}, (∀ y ∈ l, y ≤ c) → over c l = 0
  | [], _ => rfl
  | x :: r, h => by
    have h1 := h x (by simp)
    have h2 := over_zero (c := c) (l := r) fun y hy => h y (by simp [hy])
    rw [over, if_neg (by omega), h2]
    rfl
/-- Column c is longer than j exactly if row j is longer than c. -/
theorem over_iff : ∀ (l : List Int) (p f : Int), okFrom p f l = true → ∀ (c : Int) (j : Nat), (j : Int) < over c l ↔ j < l.length ∧ c < l.getD j 0
  | [], _, _, _, c, j => by simp [over]
  | x :: r, p, f, h, c, j => by
    obtain ⟨h1, h2, h3, h4⟩ := okFrom_cons h
    by_cases hx : c < x
    · rw [over, if_pos hx]
      cases j with
      | zero =>
        have := over_nonneg c r
        simp only [List.length_cons, List.getD_cons_zero]
        constructor
        · intro _; exact ⟨by omega, hx⟩
        · intro _; omega
      | succ j =>
        have ih := over_iff r x (f - x) h4 c j
        simp only [List.length_cons, List.getD_cons_succ]
        constructor
        · intro hj
          have := ih.1 (by omega)
          exact ⟨by omega, this.2⟩
        · rintro ⟨ha, hb⟩
          have := ih.2 ⟨by omega, hb⟩
          omega
    · have hz : over c r = 0 := over_zero fun y hy => by have := okFrom_mem r x (f - x) h4 y hy; omega
      rw [over, if_neg hx, hz]
      constructor
      · intro hj; omega
      · rintro ⟨ha, hb⟩
        exfalso
        cases j with
        | zero => exact hx hb
        | succ j =>
          rw [List.getD_cons_succ] at hb
          have := okFrom_mem r x (f - x) h4 _ (getD_mem (l := r) (j := j) (by simpa using ha))
          omega
theorem over_range (j : Int) (f : Nat → Int) (t : Nat) : ∀ m : Nat, (∀ c, c < m → (j < f c ↔ c < t)) → over j ((List.range m).map f) = ((min t m : Nat) : Int)
  | 0, _ => by simp [over]
  | m + 1, h => by
    have ih := over_range j f t m fun c hc => h c (by omega)
    have hm := h m (by omega)
    rw [List.range_succ, List.map_append, over_append, ih]
    simp only [List.map_cons, List.map_nil, over]
    by_cases hj : j < f m
    · rw [if_pos hj]; have := hm.1 hj; omega
    · rw [if_neg hj]; have : ¬ m < t := fun h => hj (hm.2 h); omega
theorem over_all : ∀ {l : List Int}, (∀ y ∈ l, 0 < y) → over 0 l = l.length
  | [], _ => rfl
  | x :: r, h => by
    have h1 := h x (by simp)
    have h2 := over_all (l := r) fun y hy => h y (by simp [hy])
    rw [over, if_pos h1, h2, List.length_cons]
    omega
theorem ext_getD {a b : List Int} (h : a.length = b.length) (hj : ∀ j, j < a.length → a.getD j 0 = b.getD j 0) : a = b := by
  apply List.ext_getElem h
  intro j h1 h2
  have := hj j h1
  simpa [List.getD, h1, h2] using this

/-- The facts on a partition's first part. -/
theorem head_pos {l : List Int} (hP : isP l = true) (h : 0 < l.length) : 1 ≤ l.getD 0 0 ∧ l.getD 0 0 ≤ 30 := isP_at hP h
theorem conj_len {l : List Int} : (conjL l).length = (l.getD 0 0).toNat := by rw [conjL_len, headD_getD]
theorem conj_at {l : List Int} {j : Nat} (h : j < (l.getD 0 0).toNat) : (conjL l).getD j 0 = over (j : Int) l := conjL_at (by rw [headD_getD]; exact h)
theorem conj_head {l : List Int} (hP : isP l = true) (h : 0 < l.length) : (conjL l).getD 0 0 = l.length := by
  have := head_pos hP h
  rw [conj_at (by omega)]
  exact over_all fun y hy => by have := isP_mem hP hy; omega
theorem conj_conj {l : List Int} (hP : isP l = true) : conjL (conjL l) = l := by
  by_cases h0 : l.length = 0
  · have : l = [] := List.length_eq_zero_iff.1 h0
    subst this
    rfl
  · have hh := head_pos hP (by omega)
    have hlen : (conjL (conjL l)).length = l.length := by rw [conj_len, conj_head hP (by omega)]; omega
    refine ext_getD hlen fun j hj => ?_
    rw [hlen] at hj
    have hjl := isP_at hP hj
    have hjh := isP_head hP hj
    rw [conj_at (by rw [conj_head hP (by omega)]; omega)]
    have : conjL l = (List.range (l.getD 0 0).toNat).map fun c : Nat => over (c : Int) l := by unfold conjL; rw [headD_getD]
    rw [this, over_range (j : Int) (fun c : Nat => over (c : Int) l) (l.getD j 0).toNat]
    · omega
    · intro c _
      rw [over_iff l 30 30 hP (c : Int) j]
      constructor
      · rintro ⟨_, h⟩; omega
      · intro h; exact ⟨hj, by omega⟩

theorem over_mono (l : List Int) {c d : Int} (h : c ≤ d) : over d l ≤ over c l := by
  induction l with
  | nil => simp [over]
  | cons x r ih =>
    simp only [over]
    split <;> split <;> omega
theorem sumL_nonneg : ∀ {l : List Int}, (∀ y ∈ l, 1 ≤ y) → 0 ≤ sumL l
  | [], _ => by simp [sumL]
  | x :: r, h => by
    have h1 := h x (by simp)
    have := sumL_nonneg (l := r) fun y hy => h y (by simp [hy])
    rw [sumL]; omega
theorem okFrom_of : ∀ (l : List Int) (p f : Int), (∀ y ∈ l, 1 ≤ y ∧ y ≤ p) → l.Pairwise (fun a b => b ≤ a) → sumL l ≤ f → okFrom p f l = true
  | [], _, _, _, _, _ => rfl
  | x :: r, p, f, h, hs, hf => by
    obtain ⟨hs1, hs2⟩ := List.pairwise_cons.1 hs
    have hx := h x (by simp)
    have hr := sumL_nonneg (l := r) fun y hy => (h y (by simp [hy])).1
    rw [sumL] at hf
    exact okFrom_mk hx.1 (by omega) hx.2 (okFrom_of r x (f - x) (fun y hy => ⟨(h y (by simp [hy])).1, hs1 y hy⟩) hs2 (by omega))
theorem sumL_map_add {α : Type} (f g : α → Int) : ∀ L : List α, sumL (L.map fun x => f x + g x) = sumL (L.map f) + sumL (L.map g)
  | [] => rfl
  | x :: r => by
    simp only [List.map_cons, sumL]
    rw [sumL_map_add f g r]
    omega
theorem sum_ind (x : Int) (hx : 0 ≤ x) : ∀ m : Nat, sumL ((List.range m).map fun c : Nat => if (c : Int) < x then (1 : Int) else 0) = min x m
  | 0 => by simp [sumL]; omega
  | m + 1 => by
    rw [List.range_succ, List.map_append, sumL_append, sum_ind x hx m]
    simp only [List.map_cons, List.map_nil, sumL]
    split <;> omega
theorem sum_over (m : Nat) : ∀ l : List Int, (∀ y ∈ l, 0 ≤ y ∧ y ≤ m) → sumL ((List.range m).map fun c : Nat => over (c : Int) l) = sumL l
  | [], _ => by
    have : ∀ k : Nat, sumL ((List.range k).map fun c : Nat => over (c : Int) []) = 0 := by
      intro k
      induction k with
      | zero => rfl
      | succ k ih => rw [List.range_succ, List.map_append, sumL_append, ih]; rfl
    exact this m
  | x :: r, h => by
    have h1 := h x (by simp)
    have ih := sum_over m r fun y hy => h y (by simp [hy])
    have e : ((List.range m).map fun c : Nat => over (c : Int) (x :: r)) = (List.range m).map fun c : Nat => (if (c : Int) < x then (1 : Int) else 0) + over (c : Int) r := rfl
    rw [e, sumL_map_add, ih, sum_ind x h1.1, sumL]
    omega
theorem conj_isP {l : List Int} (hP : isP l = true) : isP (conjL l) = true := by
  by_cases h0 : l.length = 0
  · have : l = [] := List.length_eq_zero_iff.1 h0
    subst this
    rfl
  · have hh := head_pos hP (by omega)
    have hc : conjL l = (List.range (l.getD 0 0).toNat).map fun c : Nat => over (c : Int) l := by unfold conjL; rw [headD_getD]
    refine okFrom_of (conjL l) 30 30 (fun y hy => ?_) ?_ ?_
    · rw [hc] at hy
      obtain ⟨c, hcm, rfl⟩ := List.mem_map.1 hy
      have hcm := List.mem_range.1 hcm
      have h1 := (over_iff l 30 30 hP (c : Int) 0).2 ⟨by omega, by omega⟩
      have h2 := over_nonneg (c : Int) l
      have h3 := isP_len hP
      exact ⟨by omega, by omega⟩
    · rw [hc, List.pairwise_map]
      refine List.Pairwise.imp (fun {a b} hab => over_mono l (by omega)) (List.pairwise_lt_range)
    · rw [hc, sum_over _ l fun y hy => ?_]
      · exact (isP_sum hP).2
      · have h1 := isP_mem hP hy
        obtain ⟨j, hj, rfl⟩ := List.getElem_of_mem hy
        have h2 := isP_head hP hj
        have h3 : l.getD j 0 = l[j] := by simp [List.getD, hj]
        rw [h3] at h2
        exact ⟨by omega, by omega⟩

/-- Row j goes beyond the diagonal. -/
def beyond (l : List Int) (j : Nat) : Prop := j < l.length ∧ (j : Int) < l.getD j 0
theorem sqFrom_spec (l : List Int) : ∀ (d k : Nat), l.length ≤ k + d → k ≤ sqFrom k (l.drop k) ∧ (∀ i, k ≤ i → i < sqFrom k (l.drop k) → beyond l i) ∧ ¬ beyond l (sqFrom k (l.drop k))
  | 0, k, h => by
    rw [List.drop_of_length_le (show l.length ≤ k by omega)]
    exact ⟨Nat.le_refl _, fun i h1 h2 => by simp only [sqFrom] at h2; omega, fun hb => by simp only [sqFrom] at hb; have := hb.1; omega⟩
  | d + 1, k, h => by
    by_cases hk : k < l.length
    · rw [drop_cons hk]
      simp only [sqFrom]
      by_cases hx : (k : Int) < l.getD k 0
      · rw [if_pos hx]
        obtain ⟨h1, h2, h3⟩ := sqFrom_spec l d (k + 1) (by omega)
        refine ⟨by omega, fun i hi1 hi2 => ?_, h3⟩
        by_cases hik : i = k
        · subst hik; exact ⟨hk, hx⟩
        · exact h2 i (by omega) hi2
      · rw [if_neg hx]
        exact ⟨Nat.le_refl _, fun i h1 h2 => by omega, fun hb => hx hb.2⟩
    · rw [List.drop_of_length_le (by omega)]
      exact ⟨Nat.le_refl _, fun i h1 h2 => by simp only [sqFrom] at h2; omega, fun hb => by simp only [sqFrom] at hb; exact hk hb.1⟩
theorem conj_sq {l : List Int} (hP : isP l = true) : sqL (conjL l) = sqL l := by
  have hb : ∀ j, beyond (conjL l) j ↔ beyond l j := by
    intro j
    unfold beyond
    by_cases h0 : l.length = 0
    · have : l = [] := List.length_eq_zero_iff.1 h0
      subst this
      simp [conjL]
    · have hh := head_pos hP (by omega)
      constructor
      · rintro ⟨h1, h2⟩
        rw [conj_len] at h1
        rw [conj_at h1] at h2
        exact (over_iff l 30 30 hP (j : Int) j).1 h2
      · rintro ⟨h1, h2⟩
        have h3 := isP_head hP h1
        have h4 : j < (l.getD 0 0).toNat := by omega
        refine ⟨by rw [conj_len]; exact h4, ?_⟩
        rw [conj_at h4]
        exact (over_iff l 30 30 hP (j : Int) j).2 ⟨h1, h2⟩
  obtain ⟨-, a2, a3⟩ := sqFrom_spec l l.length 0 (by omega)
  obtain ⟨-, b2, b3⟩ := sqFrom_spec (conjL l) (conjL l).length 0 (by omega)
  rw [List.drop_zero] at a2 a3 b2 b3
  unfold sqL
  have e : sqFrom 0 (conjL l) = sqFrom 0 l := by
    rcases Nat.lt_trichotomy (sqFrom 0 (conjL l)) (sqFrom 0 l) with h | h | h
    · exact absurd ((hb _).2 (a2 _ (by omega) h)) b3
    · exact h
    · exact absurd ((hb _).1 (b2 _ (by omega) h)) a3
  rw [e]
theorem conj_rank {l : List Int} (hP : isP l = true) : rankL (conjL l) = - rankL l := by
  by_cases h0 : l.length = 0
  · have : l = [] := List.length_eq_zero_iff.1 h0
    subst this
    rfl
  · have hh := head_pos hP (by omega)
    have h1 := conj_head hP (by omega)
    have h2 := conj_len (l := l)
    unfold rankL
    rw [if_neg h0, if_neg (by omega), h1, h2]
    omega
end Go.Proofs.Ytfecdpglcdhijaa
