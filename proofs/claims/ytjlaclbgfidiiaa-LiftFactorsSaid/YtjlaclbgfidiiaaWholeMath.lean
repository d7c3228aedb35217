/- A whole root of a polynomial gives a slope. Mathematics alone. -/
import Derived.Test.YtjlaclbgfidiiaaPureMath
import Derived.Test.YtjlaclbgfidiiaaSlp
namespace Go.Proofs.Ytjlaclbgfidiiaa

/-- The greatest index of the least weight. -/
theorem argmin2 (wt : Nat → Int) (P : Nat → Prop) [DecidablePred P] : ∀ n : Nat, (∃ i, i < n ∧ P i) → ∃ i0, i0 < n ∧ P i0 ∧ ∀ i, i < n → P i → wt i0 ≤ wt i ∧ (i0 < i → wt i0 < wt i)
  | 0, h => by obtain ⟨i, hi, -⟩ := h; omega
  | n + 1, h => by
    by_cases hn : ∃ i, i < n ∧ P i
    · obtain ⟨i0, h1, h2, h3⟩ := argmin2 wt P n hn
      by_cases hb : P n ∧ wt n ≤ wt i0
      · refine ⟨n, by omega, hb.1, fun i hi hp => ?_⟩
        by_cases e : i = n
        · subst e; exact ⟨Int.le_refl _, fun h => absurd h (by omega)⟩
        · have := (h3 i (by omega) hp).1
          exact ⟨by omega, fun h => absurd h (by omega)⟩
      · refine ⟨i0, by omega, h2, fun i hi hp => ?_⟩
        by_cases e : i = n
        · subst e
          have : ¬ wt i ≤ wt i0 := fun h => hb ⟨hp, h⟩
          exact ⟨by omega, fun _ => by omega⟩
        · exact h3 i (by omega) hp
    · obtain ⟨i, hi, hp⟩ := h
      have e : i = n := by
        apply Decidable.byContradiction
        intro he
        exact hn ⟨i, by omega, hp⟩
      subst e
      refine ⟨i, hi, hp, fun j hj hpj => ?_⟩
      have e2 : j = i := by
        apply Decidable.byContradiction
        intro he
        exact hn ⟨j, by omega, hpj⟩
      subst e2
      exact ⟨Int.le_refl _, fun h => absurd h (by omega)⟩
theorem gauss_min {q : Nat} (hq : q ∈ [2, 3, 5, 7, 11, 13]) {f g : List Int} (hf : isPoly f = true) (hg : isPoly g = true) (hh : isPoly (mulF f g) = true) {N D Mf Mg : Int} (hD : 0 < D)
    (h1 : ∀ i, i < f.length → f.getD i 0 ≠ 0 → Mf ≤ wtF q f N D i) (h2 : ∀ i, i < g.length → g.getD i 0 ≠ 0 → Mg ≤ wtF q g N D i) :
    ∀ t, t < (mulF f g).length → (mulF f g).getD t 0 ≠ 0 → Mf + Mg ≤ wtF q (mulF f g) N D t := by
  intro t ht hne
  have q2 := (pr_bounds hq).1
  apply Decidable.byContradiction
  intro hc
  have ho := oF_ord q2 hh ht hne
  have hd : (q : Int) ^ (oF q (mulF f g) t + 1) ∣ (mulF f g).getD t 0 := by
    rw [mulF_len] at ht
    rw [mulF_at ht]
    refine full_dvd _ fun i hi => ?_
    show (q : Int) ^ (oF q (mulF f g) t + 1) ∣ (if i ≤ t ∧ t - i < g.length then f.getD i 0 * g.getD (t - i) 0 else 0)
    split
    · rename_i hcond
      obtain ⟨j, hj⟩ : ∃ j, t - i = j := ⟨_, rfl⟩
      rw [hj] at hcond ⊢
      by_cases e1 : f.getD i 0 = 0
      · rw [e1, Int.zero_mul]; exact Int.dvd_zero _
      · by_cases e2 : g.getD j 0 = 0
        · rw [e2, Int.mul_zero]; exact Int.dvd_zero _
        · refine ((oF_ord q2 hf hi e1).mul hq (oF_ord q2 hg hcond.2 e2)).dvd ?_
          have w1 := h1 i hi e1
          have w2 := h2 j hcond.2 e2
          unfold wtF at w1 w2 hc
          have et : N * (i : Int) + N * (j : Int) = N * (t : Int) := by rw [← Int.mul_add, show (i : Int) + (j : Int) = (t : Int) by omega]
          have hl : D * (oF q (mulF f g) t : Int) < D * ((oF q f i : Int) + (oF q g j : Int)) := by rw [Int.mul_add]; omega
          have := Int.lt_of_mul_lt_mul_left hl (by omega)
          omega
    · exact Int.dvd_zero _
  have := ho.le q2 hd
  omega

theorem fr_whole {N d : Int} (hd : 1 ≤ d) : frN (N * d) d = N ∧ frD (N * d) d = 1 := by
  have hg : Nat.gcd (N * d).natAbs d.natAbs = d.natAbs := by
    rw [Int.natAbs_mul]
    exact Nat.gcd_eq_right (Nat.dvd_mul_left _ _)
  unfold frN frD
  rw [hg, show ((d.natAbs : Nat) : Int) = d by omega]
  exact ⟨Int.mul_ediv_cancel _ (by omega), Int.ediv_self (by omega)⟩
/-- Two points of least weight give a side of that slope. -/
theorem hull_has (N : Int) : ∀ (k : Nat) (L : List (Int × Int)), okL L → L.length ≤ k → ∀ u v, u < v → v < L.length →
    (∀ j, j < L.length → (nth L u).2 - N * (nth L u).1 ≤ (nth L j).2 - N * (nth L j).1) → (nth L u).2 - N * (nth L u).1 = (nth L v).2 - N * (nth L v).1 →
    ∃ j, j < (hullF k L).length ∧ (nth4 (hullF k L) j).2.2 = (N, 1)
  | 0, L, _, hl, u, v, huv, hv, _, _ => by omega
  | k + 1, L, hok, hl, u, v, huv, hv, hmin, heq => by
    obtain ⟨e1, e2⟩ := endE_le L L.length
    have hlow := endE_low hok (by omega) L.length (Nat.le_refl _)
    rw [hullF_step (by omega)]
    obtain ⟨e, he⟩ : ∃ e, endE L L.length = e := ⟨_, rfl⟩
    rw [he] at e1 e2 hlow ⊢
    have hel : e < L.length := by omega
    have hxe := dx_pos hok e1 hel
    have hxv := dx_pos hok (show 1 ≤ v by omega) hv
    have hme := hmin e hel
    have hm0 := hmin 0 (by omega)
    have hlv := hlow v (by omega) (.inl hv) hv
    by_cases hw : (nth L 0).2 - N * (nth L 0).1 = (nth L u).2 - N * (nth L u).1
    · refine ⟨0, by simp, ?_⟩
      have dv : dyF L v = N * dxF L v := by unfold dyF dxF; rw [Int.mul_sub]; omega
      have de : N * dxF L e ≤ dyF L e := by unfold dyF dxF; rw [Int.mul_sub]; omega
      have de2 : dyF L e ≤ N * dxF L e := by
        rw [dv, Int.mul_right_comm] at hlv
        exact Int.le_of_mul_le_mul_right hlv hxv
      have de3 : (nth L e).2 - (nth L 0).2 = N * ((nth L e).1 - (nth L 0).1) := by unfold dyF dxF at de de2; omega
      show (sideF (nth L 0) (nth L e)).2.2 = (N, 1)
      unfold sideF
      simp only
      rw [de3]
      unfold dxF at hxe
      obtain ⟨f1, f2⟩ := fr_whole (N := N) (d := (nth L e).1 - (nth L 0).1) (by omega)
      rw [f1, f2]
    · have hu1 : 1 ≤ u := by
        apply Decidable.byContradiction
        intro hc
        have : u = 0 := by omega
        subst this
        exact hw rfl
      have hul : u < L.length := by omega
      have hxu := dx_pos hok hu1 hul
      have heu : e ≤ u := by
        apply Decidable.byContradiction
        intro hc
        have hlu := hlow u hu1 (.inl hul) hul
        have hxx := hok.2 u e (by omega) hel
        have s1 : dyF L u < N * dxF L u := by unfold dyF dxF; rw [Int.mul_sub]; omega
        have s2 : N * (dxF L e - dxF L u) ≤ dyF L e - dyF L u := by unfold dyF dxF; rw [Int.mul_sub, Int.mul_sub, Int.mul_sub]; omega
        have s3 : 0 < dxF L e - dxF L u := by unfold dxF; omega
        generalize dyF L u = yu at *
        generalize dyF L e = ye at *
        generalize dxF L u = a at *
        generalize dxF L e = ae at *
        have r1 : yu * (ae - a) < N * a * (ae - a) := Int.mul_lt_mul_of_pos_right s1 s3
        have r2 : N * (ae - a) * a ≤ (ye - yu) * a := Int.mul_le_mul_of_nonneg_right s2 (by omega)
        have r3 : N * (ae - a) * a = N * a * (ae - a) := Int.mul_right_comm _ _ _
        have r4 : (ye - yu) * a = ye * a - yu * a := Int.sub_mul _ _ _
        have r5 : yu * (ae - a) = yu * ae - yu * a := Int.mul_sub _ _ _
        omega
      obtain ⟨j, hj, hje⟩ := hull_has N k (L.drop e) (hok.drop e) (by rw [List.length_drop]; omega) (u - e) (v - e) (by omega) (by rw [List.length_drop]; omega)
        (fun j hj => by
          rw [List.length_drop] at hj
          rw [nth_drop, nth_drop, show e + (u - e) = u by omega]
          exact hmin _ (by omega))
        (by rw [nth_drop, nth_drop, show e + (u - e) = u by omega, show e + (v - e) = v by omega]; exact heq)
      exact ⟨j + 1, by rw [List.length_cons]; omega, hje⟩
theorem pts_inv {f : List Int} {q : Nat} : ∀ (k j : Nat), j < (ptsP f q k).length → ∃ i, i < k ∧ f.getD i 0 ≠ 0 ∧ nth (ptsP f q k) j = ((i : Int), (oF q f i : Int))
  | 0, j, h => absurd h (by simp [ptsP])
  | k + 1, j, h => by
    by_cases hz : f.getD k 0 = 0
    · rw [ptsP_no hz] at h ⊢
      obtain ⟨i, h1, h2, h3⟩ := pts_inv k j h
      exact ⟨i, by omega, h2, h3⟩
    · rw [ptsP_yes hz] at h ⊢
      rw [List.length_append, List.length_singleton] at h
      rw [nth_snoc]
      by_cases hj : j < (ptsP f q k).length
      · rw [if_pos hj]
        obtain ⟨i, h1, h2, h3⟩ := pts_inv k j hj
        exact ⟨i, by omega, h2, h3⟩
      · rw [if_neg hj, if_pos (by omega)]
        exact ⟨k, by omega, hz, rfl⟩
theorem slP_mem {S : List Sd} : ∀ (k j : Nat), j < k → (nth4 S j).1 < (nth4 S j).2.1 → (nth4 S j).2.2 ∈ slP S k
  | 0, j, h, _ => by omega
  | k + 1, j, h, hw => by
    simp only [slP, List.mem_append]
    by_cases e : j = k
    · right
      subst e
      rw [List.mem_replicate]
      exact ⟨by omega, rfl⟩
    · left
      exact slP_mem k j (by omega) hw
theorem Ord.neg {q e : Nat} {n : Int} (h : Ord q n e) : Ord q (-n) e := by
  obtain ⟨u, hu, hn⟩ := h
  exact ⟨-u, by rw [hu, Int.mul_neg], fun hd => hn (by have := Int.dvd_neg.2 hd; rwa [Int.neg_neg] at this)⟩

/-- A whole root's order is a slope. -/
theorem whole_slope {q : Nat} (hq : q ∈ [2, 3, 5, 7, 11, 13]) {f : List Int} {x : Int} (hx : x ≠ 0) (x0 : -100 ≤ x) (x1 : x ≤ 100) (hf : isPoly f = true) (hg : isPoly [-x, 1] = true) (hh : isPoly (mulF f [-x, 1]) = true) :
    (-(ordF q 40 x : Int), (1 : Int)) ∈ slopesF (polyS (mulF f [-x, 1]) q) := by
  have q2 := (pr_bounds hq).1
  obtain ⟨lf, lf7, tf, -⟩ := isPoly_spec hf
  have h40 : (2 : Nat) ^ 40 = 1099511627776 := by decide
  obtain ⟨g, hgg⟩ : ∃ g, [-x, 1] = g := ⟨_, rfl⟩
  have g0 : g.getD 0 0 = -x := by rw [← hgg]; rfl
  have g1 : g.getD 1 0 = 1 := by rw [← hgg]; rfl
  have gl : g.length = 2 := by rw [← hgg]; rfl
  rw [hgg] at hg hh ⊢
  have hlen := mulF_len (f := f) (g := g)
  rw [gl] at hlen
  have o0 : oF q g 0 = ordF q 40 x := by
    have a1 := (ord_form q2 40 x hx (by omega)).neg
    rw [← g0] at a1
    exact (oF_ord q2 hg (by omega) (by rw [g0]; omega)).uniq q2 a1
  have o1 : oF q g 1 = 0 := by
    unfold oF
    rw [g1]
    exact ordF_no (k := 39) (fun hd => by
      have := Int.le_of_dvd (by omega) hd
      omega)
  obtain ⟨o, ho⟩ : ∃ o, ordF q 40 x = o := ⟨_, rfl⟩
  rw [ho] at o0 ⊢
  obtain ⟨N, hN⟩ : ∃ N : Int, -(o : Int) = N := ⟨_, rfl⟩
  rw [hN]
  have gw0 : wtF q g N 1 0 = (o : Int) := by unfold wtF; rw [o0]; omega
  have gw1 : wtF q g N 1 1 = (o : Int) := by unfold wtF; rw [o1]; omega
  have gmin : ∀ i, i < g.length → g.getD i 0 ≠ 0 → (o : Int) ≤ wtF q g N 1 i := fun i hi _ => by
    rw [gl] at hi
    match i, hi with
    | 0, _ => rw [gw0]; exact Int.le_refl _
    | 1, _ => rw [gw1]; exact Int.le_refl _
  have hP : ∃ i, i < f.length ∧ f.getD i 0 ≠ 0 := ⟨f.length - 1, by omega, tf⟩
  obtain ⟨i0, i1, i2, i3⟩ := argmin (fun i => wtF q f N 1 i) (fun i => f.getD i 0 ≠ 0) f.length hP
  obtain ⟨r0, r1, r2, r3⟩ := argmin2 (fun i => wtF q f N 1 i) (fun i => f.getD i 0 ≠ 0) f.length hP
  have hMM : wtF q f N 1 i0 = wtF q f N 1 r0 := Int.le_antisymm (i3 r0 r1 r2).1 (r3 i0 i1 i2).1
  have hir : i0 ≤ r0 := by
    apply Decidable.byContradiction
    intro hc
    have := (r3 i0 i1 i2).2 (by omega)
    try simp only at this
    omega
  have qa := gauss_core hq hf hg (i0 := i0) (j0 := 0) i1 (by omega) i2 (by rw [g0]; omega) (fun i j hi hj h hne hfi hgj => wt_add (N := N) (D := 1) (by omega) h (by
    have a1 := (i3 i hi hfi).2 (by omega)
    try simp only at a1
    have a2 := gmin j hj hgj
    rw [gw0]; omega))
  have qb := gauss_core hq hf hg (i0 := r0) (j0 := 1) r1 (by omega) r2 (by rw [g1]; omega) (fun i j hi hj h hne hfi hgj => wt_add (N := N) (D := 1) (by omega) h (by
    have a1 := (r3 i hi hfi).2 (by omega)
    try simp only at a1
    have a2 := gmin j hj hgj
    rw [gw1]; omega))
  have na : (mulF f g).getD (i0 + 0) 0 ≠ 0 := by
    rcases qa.ne with h | h
    · exact h
    · omega
  have nb : (mulF f g).getD (r0 + 1) 0 ≠ 0 := by
    rcases qb.ne with h | h
    · exact h
    · omega
  have ua := qa.uniq q2 (oF_ord q2 hh (by omega) na)
  have ub := qb.uniq q2 (oF_ord q2 hh (by omega) nb)
  have hmin := gauss_min hq hf hg hh (N := N) (D := 1) (by omega) (fun i hi hfi => (i3 i hi hfi).1) gmin
  try simp only at hmin
  -- the two points
  obtain ⟨h, hhh⟩ : ∃ h, mulF f g = h := ⟨_, rfl⟩
  rw [hhh] at na nb ua ub hmin hlen hh ⊢
  have hok := pts_ok h q h.length (by omega)
  obtain ⟨u, hu, hue⟩ := pts_mem (f := h) (q := q) h.length (i0 + 0) (by omega) na
  obtain ⟨v, hv, hve⟩ := pts_mem (f := h) (q := q) h.length (r0 + 1) (by omega) nb
  have hinv := fun j hj => pts_inv (f := h) (q := q) h.length j hj
  have hS := (poly_ok (f := h) (q := q) (by omega)).2
  have hS2 : polyS h q = hullF (ptsP h q h.length).length (ptsP h q h.length) := rfl
  obtain ⟨L, hL⟩ : ∃ L, ptsP h q h.length = L := ⟨_, rfl⟩
  rw [hL] at hok hu hue hv hve hinv hS2
  have huv : u < v := by
    apply Decidable.byContradiction
    intro hc
    by_cases e : v = u
    · rw [e, hue] at hve
      simp only [Prod.mk.injEq] at hve
      omega
    · have := hok.2 v u (by omega) hu
      rw [hue, hve] at this
      try simp only at this
      omega
  have wa : wtF q h N 1 (i0 + 0) = wtF q f N 1 i0 + (o : Int) := by
    unfold wtF; rw [← ua, o0, Nat.add_zero]; omega
  have wb : wtF q h N 1 (r0 + 1) = wtF q f N 1 i0 + (o : Int) := by
    rw [hMM]
    unfold wtF; rw [← ub, o1, Nat.add_zero, Int.natCast_add, Int.mul_add]; omega
  have hwt : ∀ j i : Nat, nth L j = ((i : Int), (oF q h i : Int)) → (nth L j).2 - N * (nth L j).1 = wtF q h N 1 i := fun j i e => by
    rw [e]; show (oF q h i : Int) - N * (i : Int) = _; unfold wtF; omega
  obtain ⟨j, hj, hje⟩ := hull_has N L.length L hok (Nat.le_refl _) u v huv hv (fun j hj => by
      obtain ⟨i, hi, hne, hje⟩ := hinv j hj
      rw [hwt u _ hue, hwt j _ hje, wa]
      exact hmin i hi hne) (by rw [hwt u _ hue, hwt v _ hve, wa, wb])
  rw [← hS2] at hj hje
  rw [← hje]
  obtain ⟨-, s2, -⟩ := hS j hj
  exact slP_mem _ j hj s2
end Go.Proofs.Ytjlaclbgfidiiaa
