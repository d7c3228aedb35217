/- Rising lists; sorting by insertion; scaling. Mathematics alone. -/
import Derived.Test.YtjlaclbgfidiiaaFacMath2
namespace Go.Proofs.Ytjlaclbgfidiiaa

theorem lt_trans4 {a1 a2 b1 b2 c1 c2 : Int} (h2 : 0 < b2) (h1 : 0 < a2) (h3 : 0 < c2) (h : a1 * b2 < b1 * a2) (h' : b1 * c2 ≤ c1 * b2) : a1 * c2 < c1 * a2 := by
  have r1 : a1 * b2 * c2 < b1 * a2 * c2 := Int.mul_lt_mul_of_pos_right h h3
  have r2 : b1 * c2 * a2 ≤ c1 * b2 * a2 := Int.mul_le_mul_of_nonneg_right h' (by omega)
  have e1 : a1 * b2 * c2 = a1 * c2 * b2 := Int.mul_right_comm _ _ _
  have e2 : b1 * a2 * c2 = b1 * c2 * a2 := Int.mul_right_comm _ _ _
  have e3 : c1 * b2 * a2 = c1 * a2 * b2 := Int.mul_right_comm _ _ _
  exact Int.lt_of_mul_lt_mul_right (by omega : a1 * c2 * b2 < c1 * a2 * b2) (by omega)
theorem le_trans4 {a1 a2 b1 b2 c1 c2 : Int} (h2 : 0 < b2) (h1 : 0 < a2) (h3 : 0 < c2) (h : a1 * b2 ≤ b1 * a2) (h' : b1 * c2 ≤ c1 * b2) : a1 * c2 ≤ c1 * a2 := by
  have r1 : a1 * b2 * c2 ≤ b1 * a2 * c2 := Int.mul_le_mul_of_nonneg_right h (by omega)
  have r2 : b1 * c2 * a2 ≤ c1 * b2 * a2 := Int.mul_le_mul_of_nonneg_right h' (by omega)
  have e1 : a1 * b2 * c2 = a1 * c2 * b2 := Int.mul_right_comm _ _ _
  have e2 : b1 * a2 * c2 = b1 * c2 * a2 := Int.mul_right_comm _ _ _
  have e3 : c1 * b2 * a2 = c1 * a2 * b2 := Int.mul_right_comm _ _ _
  exact Int.le_of_mul_le_mul_right (by omega : a1 * c2 * b2 ≤ c1 * a2 * b2) (by omega)
theorem leF.trans {x y z : Int × Int} (gx : good x) (gy : good y) (gz : good z) (h : leF x y) (h' : leF y z) : leF x z :=
  le_trans4 (by have := gy.1; omega) (by have := gx.1; omega) (by have := gz.1; omega) h h'
theorem leF.anti {x y : Int × Int} (gx : good x) (gy : good y) (h : leF x y) (h' : leF y x) : x = y := by
  unfold leF at h h'
  obtain ⟨a, b⟩ := fr_unique (a := x.1) (b := x.2) (c := y.1) (d := y.2) (by have := gx.1; omega) (by have := gy.1; omega) gx.2.2.2.2 gy.2.2.2.2 (by omega)
  exact Prod.ext a b
theorem poly_facts {f : List Int} {q : Nat} (hf : isPoly f = true) : (∀ j, j < (polyS f q).length → good (nth4 (polyS f q) j).2.2) ∧ (∀ j, j + 1 < (polyS f q).length → ltS (nth4 (polyS f q) j) (nth4 (polyS f q) (j + 1)) ∧ (nth4 (polyS f q) j).2.1 = (nth4 (polyS f q) (j + 1)).1) := by
  obtain ⟨l2, l7, -⟩ := isPoly_spec hf
  exact hull_facts _ _ (pts_ok f q f.length (by omega)) (Nat.le_refl _) fun j hj => by
    have := pts_below f q f.length j hj
    omega
theorem ltS_all {S : List Sd} (hg : ∀ j, j < S.length → good (nth4 S j).2.2) (hc : ∀ j, j + 1 < S.length → ltS (nth4 S j) (nth4 S (j + 1))) (i : Nat) : ∀ d, i + 1 + d < S.length → ltS (nth4 S i) (nth4 S (i + 1 + d))
  | 0, h => hc i h
  | d + 1, h => by
    have ih := ltS_all hg hc i d (by omega)
    have hn := hc (i + 1 + d) (by omega)
    have g1 := (hg i (by omega)).1
    have g2 := (hg (i + 1 + d) (by omega)).1
    have g3 := (hg (i + 1 + d + 1) (by omega)).1
    show ltS (nth4 S i) (nth4 S (i + 1 + d + 1))
    unfold ltS at ih hn ⊢
    exact lt_trans4 (by omega) (by omega) (by omega) ih (Int.le_of_lt hn)
theorem slopes_mem {x : Int × Int} : ∀ (S : List Sd), x ∈ slopesF S → ∃ j, j < S.length ∧ x = (nth4 S j).2.2
  | [], h => by simp [slopesF, slP] at h
  | s :: t, h => by
    rw [slopes_cons, List.mem_append, List.mem_replicate] at h
    rcases h with h | h
    · exact ⟨0, by simp, h.2⟩
    · obtain ⟨j, h1, h2⟩ := slopes_mem t h
      exact ⟨j + 1, by rw [List.length_cons]; omega, h2⟩
theorem slopes_sorted : ∀ (S : List Sd), (∀ i j, i < j → j < S.length → ltS (nth4 S i) (nth4 S j)) → (slopesF S).Pairwise leF
  | [], _ => by simp [slopesF, slP]
  | s :: t, h => by
    rw [slopes_cons, List.pairwise_append]
    refine ⟨?_, slopes_sorted t fun i j hij hj => h (i + 1) (j + 1) (by omega) (by rw [List.length_cons]; omega), fun a ha b hb => ?_⟩
    · rw [List.pairwise_replicate]
      exact .inr (Int.le_refl _)
    · rw [List.mem_replicate] at ha
      obtain ⟨j, h1, h2⟩ := slopes_mem t hb
      rw [ha.2, h2]
      exact Int.le_of_lt (h 0 (j + 1) (by omega) (by rw [List.length_cons]; omega))
theorem poly_slopes {f : List Int} {q : Nat} (hf : isPoly f = true) : (slopesF (polyS f q)).Pairwise leF ∧ ∀ x, x ∈ slopesF (polyS f q) → good x := by
  obtain ⟨h1, h2⟩ := poly_facts (q := q) hf
  refine ⟨slopes_sorted _ fun i j hij hj => ?_, fun x hx => ?_⟩
  · obtain ⟨d, rfl⟩ : ∃ d, j = i + 1 + d := ⟨j - (i + 1), by omega⟩
    exact ltS_all h1 (fun j hj => (h2 j hj).1) i d hj
  · obtain ⟨j, hj, rfl⟩ := slopes_mem _ hx
    exact h1 j hj
theorem uniq_sorted : ∀ (l1 l2 : List (Int × Int)), l1.Pairwise leF → l2.Pairwise leF → (∀ x, x ∈ l1 → good x) → (∀ x, x ∈ l2 → good x) → (∀ x, good x → l1.count x = l2.count x) → l1 = l2
  | [], l2, _, _, _, g2, hc => by
    cases l2 with
    | nil => rfl
    | cons b t =>
      have := hc b (g2 b (by simp))
      simp at this
  | a :: t, l2, h1, h2, g1, g2, hc => by
    have ga := g1 a (by simp)
    cases l2 with
    | nil =>
      have := hc a ga
      simp at this
    | cons b t2 =>
      have gb := g2 b (by simp)
      rw [List.pairwise_cons] at h1 h2
      have ha : a ∈ b :: t2 := List.count_pos_iff.1 (by rw [← hc a ga]; simp)
      have hb : b ∈ a :: t := List.count_pos_iff.1 (by rw [hc b gb]; simp)
      have hab : a = b := by
        rcases List.mem_cons.1 ha with e | h3
        · exact e
        · rcases List.mem_cons.1 hb with e | h4
          · exact e.symm
          · exact leF.anti ga gb (h1.1 b h4) (h2.1 a h3)
      subst hab
      rw [uniq_sorted t t2 h1.2 h2.2 (fun x hx => g1 x (List.mem_cons_of_mem _ hx)) (fun x hx => g2 x (List.mem_cons_of_mem _ hx)) (fun x gx => by
        have := hc x gx
        rw [List.count_cons, List.count_cons] at this
        omega)]

/-- Two neighbours change places. -/
def swapL (A : List (Int × Int)) (j : Nat) : List (Int × Int) := (A.set (j - 1) (nth A j)).set j (nth A (j - 1))
theorem swap_len (A : List (Int × Int)) (j : Nat) : (swapL A j).length = A.length := by simp [swapL]
theorem nth_set (A : List (Int × Int)) (j r : Nat) (x : Int × Int) (hj : j < A.length) : nth (A.set j x) r = if r = j then x else nth A r := by
  unfold nth
  simp only [List.getD, List.getElem?_set]
  by_cases h : j = r
  · subst h; simp [hj]
  · rw [if_neg h, if_neg (fun e => h e.symm)]
theorem swap_nth {A : List (Int × Int)} {j : Nat} (h1 : 1 ≤ j) (hj : j < A.length) (r : Nat) : nth (swapL A j) r = if r = j then nth A (j - 1) else if r = j - 1 then nth A j else nth A r := by
  unfold swapL
  rw [nth_set _ _ _ _ (by simpa using hj), nth_set _ _ _ _ (by omega)]
theorem nth_get {A : List (Int × Int)} {j : Nat} (hj : j < A.length) : A[j] = nth A j := by
  unfold nth; simp [List.getD, hj]
theorem swap_count {A : List (Int × Int)} {j : Nat} (h1 : 1 ≤ j) (hj : j < A.length) (x : Int × Int) : (swapL A j).count x = A.count x := by
  unfold swapL
  rw [List.count_set (by simpa using hj), List.count_set (by omega)]
  have e1 : (A.set (j - 1) (nth A j))[j]'(by simpa using hj) = nth A j := by
    rw [List.getElem_set_ne (by omega), nth_get hj]
  have e2 : A[j - 1]'(by omega) = nth A (j - 1) := nth_get (by omega)
  rw [e1, e2]
  have p1 : (if (nth A (j - 1) == x) = true then 1 else 0) ≤ A.count x := by
    split
    · rename_i h
      have : nth A (j - 1) ∈ A := by rw [← e2]; exact List.getElem_mem _
      have h2 : nth A (j - 1) = x := by simpa using h
      rw [h2] at this
      exact List.count_pos_iff.2 this
    · omega
  generalize (if (nth A (j - 1) == x) = true then 1 else 0) = a at *
  generalize (if (nth A j == x) = true then 1 else 0) = b at *
  omega
/-- All is in order up to i but for the place j. -/
def InsI (A : List (Int × Int)) (i j : Nat) : Prop := ∀ p r, p < r → r ≤ i → r ≠ j → leF (nth A p) (nth A r)
theorem ins_next {A : List (Int × Int)} {i j : Nat} (h : InsI A i j) (h1 : 1 ≤ j) (hji : j ≤ i) (hi : i < A.length) (hl : leF (nth A j) (nth A (j - 1))) : InsI (swapL A j) i (j - 1) := by
  intro p r hpr hri hrj
  rw [swap_nth h1 (by omega), swap_nth h1 (by omega)]
  by_cases e1 : r = j
  · subst e1
    rw [if_pos rfl, if_neg (by omega)]
    by_cases e2 : p = r - 1
    · rw [if_pos e2]; exact hl
    · rw [if_neg e2]; exact h p (r - 1) (by omega) (by omega) (by omega)
  · rw [if_neg e1, if_neg hrj]
    by_cases e2 : p = j
    · subst e2
      rw [if_pos rfl]; exact h (p - 1) r (by omega) hri e1
    · rw [if_neg e2]
      by_cases e3 : p = j - 1
      · rw [if_pos e3]; exact h j r (by omega) hri e1
      · rw [if_neg e3]; exact h p r hpr hri e1
def SortTo (A : List (Int × Int)) (i : Nat) : Prop := ∀ p r, p < r → r < i → leF (nth A p) (nth A r)
theorem ins_done {A : List (Int × Int)} {i j : Nat} (h : InsI A i j) (hi : i < A.length) (hg : ∀ r, r < A.length → good (nth A r)) (hji : j ≤ i) (hd : j = 0 ∨ leF (nth A (j - 1)) (nth A j)) : SortTo A (i + 1) := by
  intro p r hpr hri
  by_cases e : r = j
  · subst e
    rcases hd with hd | hd
    · omega
    · by_cases e2 : p = r - 1
      · rw [e2]; exact hd
      · exact leF.trans (hg p (by omega)) (hg (r - 1) (by omega)) (hg r (by omega)) (h p (r - 1) (by omega) (by omega) (by omega)) hd
  · exact h p r hpr (by omega) e
theorem ins_start {A : List (Int × Int)} {i : Nat} (h : SortTo A i) : InsI A i i := fun p r hpr hri hne => h p r hpr (by omega)
theorem sort_all {A : List (Int × Int)} (h : SortTo A A.length) : A.Pairwise leF := by
  rw [List.pairwise_iff_getElem]
  intro i j hi hj hij
  rw [nth_get hi, nth_get hj]
  exact h i j hij hj

/-- Scaled by a number that the prime does not divide. -/
theorem scale_poly {q : Nat} (hq : q ∈ [2, 3, 5, 7, 11, 13]) {f : List Int} {c : Int} (c1 : 1 ≤ c) (c9 : c ≤ 9) (hc : ¬ (q : Int) ∣ c) (hf : isPoly f = true) : polyS (f.map fun x => x * c) q = polyS f q := by
  have q2 := (pr_bounds hq).1
  have hgd : ∀ k, (f.map fun x => x * c).getD k 0 = f.getD k 0 * c := fun k => by
    simp only [List.getD, List.getElem?_map]
    cases f[k]? with
    | none => simp
    | some x => simp
  have h40 : (2 : Nat) ^ 40 = 1099511627776 := by decide
  have hp : ∀ k, k ≤ f.length → ptsP (f.map fun x => x * c) q k = ptsP f q k := by
    intro k
    induction k with
    | zero => intro _; rfl
    | succ k ih =>
      intro hk
      have hb := (isPoly_spec hf).2.2.2 k (by omega)
      by_cases hz : f.getD k 0 = 0
      · rw [ptsP_no hz, ptsP_no (by rw [hgd, hz, Int.zero_mul]), ih (by omega)]
      · have hz2 : (f.map fun x => x * c).getD k 0 ≠ 0 := by rw [hgd]; exact Int.mul_ne_zero hz (by omega)
        rw [ptsP_yes hz, ptsP_yes hz2, ih (by omega), hgd]
        have oc : Ord q c 0 := ⟨c, by simp, hc⟩
        have ox := (ord_form q2 40 (f.getD k 0) hz (by omega)).mul hq oc
        have hab : (f.getD k 0 * c).natAbs ≤ 1000 * 9 := by rw [Int.natAbs_mul]; exact Nat.mul_le_mul (by omega) (by omega)
        have oy := ord_form q2 40 (f.getD k 0 * c) (Int.mul_ne_zero hz (by omega)) (by omega)
        rw [oy.uniq q2 ox, Nat.add_zero]
  unfold polyS
  rw [List.length_map, hp f.length (Nat.le_refl _)]
end Go.Proofs.Ytjlaclbgfidiiaa
