/- The slopes of a product are those of its factors; sides rise; rising lists with the same counts. Mathematics alone. -/
import Derived.Test.YtjlaclbgfidiiaaFacMath
namespace Go.Proofs.Ytjlaclbgfidiiaa

theorem no_small {q : Nat} (hq : q ∈ [2, 3, 5, 7, 11, 13]) {f g : List Int} (hf : isPoly f = true) (hg : isPoly g = true) (hh : isPoly (mulF f g) = true) {t : Nat} (ht : t < (mulF f g).length) (hne : (mulF f g).getD t 0 ≠ 0)
    (hall : ∀ i j, i < f.length → j < g.length → i + j = t → f.getD i 0 ≠ 0 → g.getD j 0 ≠ 0 → oF q (mulF f g) t < oF q f i + oF q g j) : False := by
  have q2 := (pr_bounds hq).1
  have ho := oF_ord q2 hh ht hne
  have hd : (q : Int) ^ (oF q (mulF f g) t + 1) ∣ (mulF f g).getD t 0 := by
    rw [mulF_len] at ht
    rw [mulF_at ht]
    refine full_dvd _ fun i hi => ?_
    show (q : Int) ^ (oF q (mulF f g) t + 1) ∣ (if i ≤ t ∧ t - i < g.length then f.getD i 0 * g.getD (t - i) 0 else 0)
    split
    · rename_i hcond
      obtain ⟨j, hj⟩ : ∃ j, t - i = j := ⟨_, rfl⟩
      rw [hj] at hcond ⊢
      by_cases e1 : f.getD i 0 = 0
      · rw [e1, Int.zero_mul]; exact Int.dvd_zero _
      · by_cases e2 : g.getD j 0 = 0
        · rw [e2, Int.mul_zero]; exact Int.dvd_zero _
        · exact ((oF_ord q2 hf hi e1).mul hq (oF_ord q2 hg hcond.2 e2)).dvd (hall i j hi hcond.2 (by omega) e1 e2)
    · exact Int.dvd_zero _
  have := ho.le q2 hd
  omega
/-- The other way about. -/
theorem wt_of {q : Nat} {f g h : List Int} {N D : Int} {i j t : Nat} (hD : 0 < D) (ht : i + j = t) (hw : wtF q h N D t < wtF q f N D i + wtF q g N D j) : oF q h t < oF q f i + oF q g j := by
  unfold wtF at hw
  have e1 : N * (i : Int) + N * (j : Int) = N * (t : Int) := by rw [← Int.mul_add, show (i : Int) + (j : Int) = (t : Int) by omega]
  have e2 : D * (oF q h t : Int) < D * ((oF q f i : Int) + (oF q g j : Int)) := by rw [Int.mul_add]; omega
  have := Int.lt_of_mul_lt_mul_left e2 (by omega)
  omega
theorem poly_cnt {q : Nat} {f : List Int} (hf : isPoly f = true) {N D : Int} (hD : 0 < D) (hco : Nat.Coprime N.natAbs D.natAbs) {i0 r0 : Nat} (h1 : i0 ≤ r0) (h2 : r0 < f.length) (h3 : f.getD i0 0 ≠ 0) (h4 : f.getD r0 0 ≠ 0)
    (hmin : ∀ i, i < f.length → f.getD i 0 ≠ 0 → wtF q f N D i0 ≤ wtF q f N D i ∧ (i < i0 → wtF q f N D i0 < wtF q f N D i) ∧ (r0 < i → wtF q f N D i0 < wtF q f N D i)) (heq : wtF q f N D r0 = wtF q f N D i0) :
    (slopesF (polyS f q)).count (N, D) = r0 - i0 := by
  obtain ⟨l2, l7, -⟩ := isPoly_spec hf
  have hok := pts_ok f q f.length (by omega)
  obtain ⟨u, hu, hue⟩ := pts_mem (q := q) f.length i0 (by omega) h3
  obtain ⟨v, hv, hve⟩ := pts_mem (q := q) f.length r0 h2 h4
  have hinv := fun j hj => pts_inv (f := f) (q := q) f.length j hj
  have hS2 : polyS f q = hullF (ptsP f q f.length).length (ptsP f q f.length) := rfl
  obtain ⟨L, hL⟩ : ∃ L, ptsP f q f.length = L := ⟨_, rfl⟩
  rw [hL] at hok hu hue hv hve hinv hS2
  have hwt : ∀ j i : Nat, nth L j = ((i : Int), (oF q f i : Int)) → wL N D (nth L j) = wtF q f N D i := fun j i e => by rw [e]; rfl
  have hlt : ∀ j i u i0 : Nat, j < L.length → u < L.length → nth L j = ((i : Int), (oF q f i : Int)) → nth L u = ((i0 : Int), (oF q f i0 : Int)) → j < u → i < i0 := fun j i u i0 hj hu e1 e2 hju => by
    have := hok.2 j u hju hu
    rw [e1, e2] at this
    simp only at this
    omega
  have huv : u ≤ v := by
    apply Decidable.byContradiction
    intro hc
    have := hlt v r0 u i0 hv hu hve hue (by omega)
    omega
  rw [hS2, hull_cnt N D hD hco L.length L hok (Nat.le_refl _) u v huv hv (fun j hj => by
    obtain ⟨i, hi, hne, hje⟩ := hinv j hj
    rw [hwt u _ hue, hwt j _ hje]
    obtain ⟨m1, m2, m3⟩ := hmin i hi hne
    exact ⟨m1, fun h => m2 (hlt j i u i0 hj hu hje hue h), fun h => m3 (hlt v r0 j i hv hj hve hje h)⟩) (by rw [hwt u _ hue, hwt v _ hve, heq]), hue, hve]
  simp only
  omega
/-- A slope comes in a product as often as in both factors. -/
theorem fac_cnt {q : Nat} (hq : q ∈ [2, 3, 5, 7, 11, 13]) {f g : List Int} (hf : isPoly f = true) (hg : isPoly g = true) (hh : isPoly (mulF f g) = true) {N D : Int} (hD : 0 < D) (hco : Nat.Coprime N.natAbs D.natAbs) :
    (slopesF (polyS (mulF f g) q)).count (N, D) = (slopesF (polyS f q)).count (N, D) + (slopesF (polyS g q)).count (N, D) := by
  have q2 := (pr_bounds hq).1
  obtain ⟨lf, lf7, tf, -⟩ := isPoly_spec hf
  obtain ⟨lg, lg7, tg, -⟩ := isPoly_spec hg
  have hlen := mulF_len (f := f) (g := g)
  have ends : ∀ k : List Int, isPoly k = true → ∃ i0 r0, i0 ≤ r0 ∧ r0 < k.length ∧ k.getD i0 0 ≠ 0 ∧ k.getD r0 0 ≠ 0 ∧ (∀ i, i < k.length → k.getD i 0 ≠ 0 → wtF q k N D i0 ≤ wtF q k N D i ∧ (i < i0 → wtF q k N D i0 < wtF q k N D i) ∧ (r0 < i → wtF q k N D i0 < wtF q k N D i)) ∧ wtF q k N D r0 = wtF q k N D i0 := by
    intro k hk
    obtain ⟨lk, -, tk, -⟩ := isPoly_spec hk
    have hP : ∃ i, i < k.length ∧ k.getD i 0 ≠ 0 := ⟨k.length - 1, by omega, tk⟩
    obtain ⟨i0, i1, i2, i3⟩ := argmin (fun i => wtF q k N D i) (fun i => k.getD i 0 ≠ 0) k.length hP
    obtain ⟨r0, r1, r2, r3⟩ := argmin2 (fun i => wtF q k N D i) (fun i => k.getD i 0 ≠ 0) k.length hP
    have a1 : wtF q k N D i0 ≤ wtF q k N D r0 := (i3 r0 r1 r2).1
    have a2 : wtF q k N D r0 ≤ wtF q k N D i0 := (r3 i0 i1 i2).1
    refine ⟨i0, r0, ?_, r1, i2, r2, fun i hi hne => ⟨(i3 i hi hne).1, (i3 i hi hne).2, fun h => ?_⟩, by omega⟩
    · apply Decidable.byContradiction
      intro hc
      have : wtF q k N D r0 < wtF q k N D i0 := (r3 i0 i1 i2).2 (by omega)
      omega
    · have : wtF q k N D r0 < wtF q k N D i := (r3 i hi hne).2 h
      omega
  obtain ⟨i0, r0, a1, a2, a3, a4, a5, a6⟩ := ends f hf
  obtain ⟨j0, s0, b1, b2, b3, b4, b5, b6⟩ := ends g hg
  have qa := gauss_core hq hf hg (i0 := i0) (j0 := j0) (by omega) (by omega) a3 b3 (fun i j hi hj h hne hfi hgj => wt_add (N := N) (D := D) hD h (by
    have w1 := a5 i hi hfi
    have w2 := b5 j hj hgj
    by_cases hlt : i < i0
    · have := w1.2.1 hlt; omega
    · have := w2.2.1 (by omega); omega))
  have qb := gauss_core hq hf hg (i0 := r0) (j0 := s0) (by omega) (by omega) a4 b4 (fun i j hi hj h hne hfi hgj => wt_add (N := N) (D := D) hD h (by
    have w1 := a5 i hi hfi
    have w2 := b5 j hj hgj
    by_cases hlt : r0 < i
    · have := w1.2.2 hlt; omega
    · have := w2.2.2 (by omega); omega))
  have na : (mulF f g).getD (i0 + j0) 0 ≠ 0 := by
    rcases qa.ne with h | h
    · exact h
    · omega
  have nb : (mulF f g).getD (r0 + s0) 0 ≠ 0 := by
    rcases qb.ne with h | h
    · exact h
    · omega
  have ua := qa.uniq q2 (oF_ord q2 hh (by omega) na)
  have ub := qb.uniq q2 (oF_ord q2 hh (by omega) nb)
  have wa : wtF q (mulF f g) N D (i0 + j0) = wtF q f N D i0 + wtF q g N D j0 := by
    unfold wtF; rw [← ua, Int.natCast_add, Int.natCast_add, Int.mul_add, Int.mul_add]; omega
  have wb : wtF q (mulF f g) N D (r0 + s0) = wtF q f N D i0 + wtF q g N D j0 := by
    rw [← a6, ← b6]
    unfold wtF; rw [← ub, Int.natCast_add, Int.natCast_add, Int.mul_add, Int.mul_add]; omega
  rw [poly_cnt hf hD hco a1 a2 a3 a4 a5 a6, poly_cnt hg hD hco b1 b2 b3 b4 b5 b6, poly_cnt hh hD hco (i0 := i0 + j0) (r0 := r0 + s0) (by omega) (by omega) na nb (fun t ht hne => by
    rw [wa]
    refine ⟨?_, fun hlt => ?_, fun hlt => ?_⟩
    · apply Decidable.byContradiction
      intro hc
      exact no_small hq hf hg hh ht hne fun i j hi hj hij hfi hgj => wt_of (N := N) hD hij (by have := (a5 i hi hfi).1; have := (b5 j hj hgj).1; omega)
    · apply Decidable.byContradiction
      intro hc
      exact no_small hq hf hg hh ht hne fun i j hi hj hij hfi hgj => wt_of (N := N) hD hij (by
        have w1 := a5 i hi hfi
        have w2 := b5 j hj hgj
        by_cases hli : i < i0
        · have := w1.2.1 hli; omega
        · have := w2.2.1 (by omega); omega)
    · apply Decidable.byContradiction
      intro hc
      exact no_small hq hf hg hh ht hne fun i j hi hj hij hfi hgj => wt_of (N := N) hD hij (by
        have w1 := a5 i hi hfi
        have w2 := b5 j hj hgj
        by_cases hli : r0 < i
        · have := w1.2.2 hli; omega
        · have := w2.2.2 (by omega); omega)) (by rw [wa, wb])]
  omega

/-- A slope of the kind the law takes. -/
def good (x : Int × Int) : Prop := 1 ≤ x.2 ∧ x.2 ≤ 6 ∧ -60 ≤ x.1 ∧ x.1 ≤ 60 ∧ Nat.Coprime x.1.natAbs x.2.natAbs
def leF (x y : Int × Int) : Prop := x.1 * y.2 ≤ y.1 * x.2
def ltS (s t : Sd) : Prop := s.2.2.1 * t.2.2.2 < t.2.2.1 * s.2.2.2
/-- What the law asks of the sides. -/
theorem hull_facts : ∀ (k : Nat) (L : List (Int × Int)), okL L → L.length ≤ k → (∀ j, j < L.length → (nth L j).1 ≤ 6 ∧ (nth L j).2 ≤ 40) →
    (∀ j, j < (hullF k L).length → good (nth4 (hullF k L) j).2.2) ∧ (∀ j, j + 1 < (hullF k L).length → ltS (nth4 (hullF k L) j) (nth4 (hullF k L) (j + 1)) ∧ (nth4 (hullF k L) j).2.1 = (nth4 (hullF k L) (j + 1)).1)
  | 0, L, _, _, _ => ⟨fun j hj => absurd hj (by simp [hullF]), fun j hj => absurd hj (by simp [hullF])⟩
  | k + 1, L, hok, hk, hs => by
    by_cases hl1 : L.length ≤ 1
    · rw [hullF_small hl1]; exact ⟨fun j hj => absurd hj (by simp), fun j hj => absurd hj (by simp)⟩
    · obtain ⟨e1, e2⟩ := endE_le L L.length
      have hhigh := endE_high hok (by omega) L.length (Nat.le_refl _)
      rw [hullF_step hl1]
      obtain ⟨e, he⟩ : ∃ e, endE L L.length = e := ⟨_, rfl⟩
      rw [he] at e1 e2 hhigh ⊢
      have hel : e < L.length := by omega
      have hdl : (L.drop e).length = L.length - e := List.length_drop
      obtain ⟨r1, r2⟩ := hull_facts k (L.drop e) (hok.drop e) (by omega) (fun j hj => by rw [nth_drop]; exact hs _ (by omega))
      have red : ∀ (a b : Nat), a < b → b < L.length → good (sideF (nth L a) (nth L b)).2.2 ∧ ((nth L b).2 - (nth L a).2) * (sideF (nth L a) (nth L b)).2.2.2 = (sideF (nth L a) (nth L b)).2.2.1 * ((nth L b).1 - (nth L a).1) := fun a b hab hb => by
        have ha0 := hok.1 a (by omega)
        have hb0 := hok.1 b hb
        have hab2 := hok.2 a b hab hb
        have sa := hs a (by omega)
        have sb := hs b hb
        unfold okP at ha0 hb0
        obtain ⟨f1, f2, f3, f4, f5⟩ := fr_red (n := (nth L b).2 - (nth L a).2) (d := (nth L b).1 - (nth L a).1) (by omega) (by omega) (by omega) (by omega)
        refine ⟨⟨?_, ?_, ?_, ?_, f2⟩, f3⟩
        · show 1 ≤ frD _ _; omega
        · show frD _ _ ≤ 6; omega
        · show -60 ≤ frN _ _; omega
        · show frN _ _ ≤ 60; omega
      refine ⟨fun j hj => ?_, fun j hj => ?_⟩
      · rw [List.length_cons] at hj
        cases j with
        | zero => exact (red 0 e (by omega) hel).1
        | succ j => exact r1 j (by omega)
      · rw [List.length_cons] at hj
        cases j with
        | succ j => exact r2 j (by omega)
        | zero =>
          have hl2 : ¬ (L.drop e).length ≤ 1 := fun h => by rw [hullF_small h] at hj; simp at hj
          obtain ⟨k', rfl⟩ : ∃ k', k = k' + 1 := ⟨k - 1, by omega⟩
          rw [hullF_step hl2]
          obtain ⟨g1, g2⟩ := endE_le (L.drop e) (L.drop e).length
          obtain ⟨e', he'⟩ : ∃ e', endE (L.drop e) (L.drop e).length = e' := ⟨_, rfl⟩
          rw [he'] at g1 g2 ⊢
          have hel2 : e + e' < L.length := by omega
          show ltS (sideF (nth L 0) (nth L e)) (sideF (nth (L.drop e) 0) (nth (L.drop e) e')) ∧ (nth L e).1 = (nth (L.drop e) 0).1
          rw [nth_drop, nth_drop, Nat.add_zero]
          refine ⟨?_, rfl⟩
          obtain ⟨p1, p2⟩ := red 0 e (by omega) hel
          obtain ⟨p3, p4⟩ := red e (e + e') (by omega) hel2
          have hh := hhigh (e + e') (by omega) hel2
          have x1 := hok.2 0 e (by omega) hel
          have x2 := hok.2 e (e + e') (by omega) hel2
          unfold dyF dxF at hh
          unfold ltS
          obtain ⟨d1, -⟩ := p1
          obtain ⟨d2, -⟩ := p3
          generalize (sideF (nth L 0) (nth L e)).2.2.1 = N1 at *
          generalize (sideF (nth L 0) (nth L e)).2.2.2 = D1 at *
          generalize (sideF (nth L e) (nth L (e + e'))).2.2.1 = N2 at *
          generalize (sideF (nth L e) (nth L (e + e'))).2.2.2 = D2 at *
          obtain ⟨ya, hya⟩ : ∃ y, (nth L e).2 - (nth L 0).2 = y := ⟨_, rfl⟩
          obtain ⟨xa, hxa⟩ : ∃ y, (nth L e).1 - (nth L 0).1 = y := ⟨_, rfl⟩
          obtain ⟨yb, hyb⟩ : ∃ y, (nth L (e + e')).2 - (nth L e).2 = y := ⟨_, rfl⟩
          obtain ⟨xb, hxb⟩ : ∃ y, (nth L (e + e')).1 - (nth L e).1 = y := ⟨_, rfl⟩
          rw [show (nth L (e + e')).2 - (nth L 0).2 = ya + yb by omega, show (nth L (e + e')).1 - (nth L 0).1 = xa + xb by omega, hya, hxa, Int.mul_add, Int.add_mul] at hh
          rw [hya, hxa] at p2
          rw [hyb, hxb] at p4
          have h5 : ya * xb < yb * xa := by omega
          have xa0 : 0 < xa := by omega
          have xb0 : 0 < xb := by omega
          -- N1 D2 xa xb = ya D1 D2 xb < yb xa D1 D2 = N2 D1 xa xb
          have h6 : ya * xb * (D1 * D2) < yb * xa * (D1 * D2) := Int.mul_lt_mul_of_pos_right h5 (Int.mul_pos (by omega) (by omega))
          have l1 : ya * xb * (D1 * D2) = N1 * D2 * (xa * xb) := by
            have : ya * xb * (D1 * D2) = (ya * D1) * (xb * D2) := by simp only [Int.mul_assoc, Int.mul_left_comm, Int.mul_comm]
            rw [this, p2]
            simp only [Int.mul_assoc, Int.mul_left_comm, Int.mul_comm]
          have l2 : yb * xa * (D1 * D2) = N2 * D1 * (xa * xb) := by
            have : yb * xa * (D1 * D2) = (yb * D2) * (xa * D1) := by simp only [Int.mul_assoc, Int.mul_left_comm, Int.mul_comm]
            rw [this, p4]
            simp only [Int.mul_assoc, Int.mul_left_comm, Int.mul_comm]
          rw [l1, l2] at h6
          exact Int.lt_of_mul_lt_mul_right h6 (Int.le_of_lt (Int.mul_pos xa0 xb0))
end Go.Proofs.Ytjlaclbgfidiiaa
