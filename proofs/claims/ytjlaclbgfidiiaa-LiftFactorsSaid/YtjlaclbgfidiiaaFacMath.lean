/- How often a slope comes: in a polygon, in a product's. Rising lists with the same counts. Mathematics alone. -/
import Derived.Test.YtjlaclbgfidiiaaWholeMath
namespace Go.Proofs.Ytjlaclbgfidiiaa

theorem slP_cons (s : Sd) (t : List Sd) : ∀ k, slP (s :: t) (k + 1) = List.replicate (s.2.1 - s.1).toNat s.2.2 ++ slP t k
  | 0 => by simp [slP, nth4]
  | k + 1 => by
    rw [slP, slP_cons s t k]
    have e : nth4 (s :: t) (k + 1) = nth4 t k := by simp [nth4]
    rw [e, List.append_assoc]
    rfl
theorem slopes_cons (s : Sd) (t : List Sd) : slopesF (s :: t) = List.replicate (s.2.1 - s.1).toNat s.2.2 ++ slopesF t := by
  unfold slopesF
  rw [List.length_cons, slP_cons]
theorem count_cons' (s : Sd) (t : List Sd) (x : Int × Int) : (slopesF (s :: t)).count x = (if s.2.2 = x then (s.2.1 - s.1).toNat else 0) + (slopesF t).count x := by
  rw [slopes_cons, List.count_append, List.count_replicate]
  by_cases h : s.2.2 = x
  · simp [h]
  · simp [h]
theorem fr_unique {a b c d : Int} (hb : 0 < b) (hd : 0 < d) (h1 : Nat.Coprime a.natAbs b.natAbs) (h2 : Nat.Coprime c.natAbs d.natAbs) (h : a * d = c * b) : a = c ∧ b = d := by
  have e : a.natAbs * d.natAbs = c.natAbs * b.natAbs := by rw [← Int.natAbs_mul, h, Int.natAbs_mul]
  have d1 : b.natAbs ∣ d.natAbs := h1.symm.dvd_of_dvd_mul_left ⟨c.natAbs, by rw [e, Nat.mul_comm]⟩
  have d2 : d.natAbs ∣ b.natAbs := h2.symm.dvd_of_dvd_mul_left ⟨a.natAbs, by rw [← e, Nat.mul_comm]⟩
  have e2 := Nat.dvd_antisymm d1 d2
  have hbd : b = d := by omega
  subst hbd
  exact ⟨Int.eq_of_mul_eq_mul_right (by omega) h, rfl⟩
theorem fr_red {n d : Int} (hd : 1 ≤ d) (d1 : d ≤ 1000) (n0 : -1000 ≤ n) (n1 : n ≤ 1000) : 0 < frD n d ∧ Nat.Coprime (frN n d).natAbs (frD n d).natAbs ∧ n * frD n d = frN n d * d ∧ frD n d ≤ d ∧ (frN n d).natAbs ≤ n.natAbs := by
  obtain ⟨g, N, D, hg, eN, eD, g1, -, h5, h6, -, -, -, -, D0, D1⟩ := fr_facts hd d1 n0 n1
  rw [eN, eD]
  refine ⟨by omega, ?_, ?_, D1, ?_⟩
  · have e1 : n.natAbs = g * N.natAbs := by rw [h5, Int.natAbs_mul]; rfl
    have e2 : d.natAbs = g * D.natAbs := by rw [h6, Int.natAbs_mul]; rfl
    rw [e1, e2, Nat.gcd_mul_left] at hg
    show Nat.gcd _ _ = 1
    exact Nat.eq_of_mul_eq_mul_left (by omega : 0 < g) (by rw [hg, Nat.mul_one])
  · rw [h5, h6]
    simp only [Int.mul_assoc, Int.mul_left_comm, Int.mul_comm]
  · rw [h5, Int.natAbs_mul]
    exact Nat.le_mul_of_pos_left _ (by omega)
theorem fr_iff {n d N D : Int} (hd : 1 ≤ d) (d1 : d ≤ 1000) (n0 : -1000 ≤ n) (n1 : n ≤ 1000) (hD : 0 < D) (hco : Nat.Coprime N.natAbs D.natAbs) : (frN n d, frD n d) = (N, D) ↔ D * n = N * d := by
  obtain ⟨r1, r2, r3, -⟩ := fr_red hd d1 n0 n1
  constructor
  · intro h
    simp only [Prod.mk.injEq] at h
    rw [h.1, h.2] at r3
    rw [Int.mul_comm, r3]
  · intro h
    have h1 : frN n d * D = N * frD n d := by
      have e1 : frN n d * D * d = N * frD n d * d := by
        rw [Int.mul_right_comm, ← r3, Int.mul_right_comm N, ← h]
        simp only [Int.mul_assoc, Int.mul_left_comm, Int.mul_comm]
      exact Int.eq_of_mul_eq_mul_right (by omega) e1
    obtain ⟨a, b⟩ := fr_unique r1 hD r2 hco h1
    rw [a, b]

/-- The points behind the end lie above the first side. -/
theorem endE_high {L : List (Int × Int)} (h : okL L) (h2 : 2 ≤ L.length) : ∀ i, i ≤ L.length → ∀ j, endE L i < j → j < i → dyF L (endE L i) * dxF L j < dyF L j * dxF L (endE L i)
  | 0, _, j, _, h => by omega
  | i + 1, hi, j, hj, hji => by
    have ih := endE_high h h2 i (by omega)
    obtain ⟨e, he⟩ : ∃ e, endE L i = e := ⟨_, rfl⟩
    rw [he] at ih
    by_cases hc : e < i ∧ seesF (nth L 0) (nth L e) (nth L i) = true
    · rw [endE_yes he hc.1 hc.2] at hj; omega
    · rw [endE_no he hc] at hj ⊢
      by_cases hji2 : j < i
      · exact ih j hj hji2
      · have e2 : j = i := by omega
        subst e2
        have : ¬ seesF (nth L 0) (nth L e) (nth L j) = true := fun hs => hc ⟨hj, hs⟩
        unfold seesF at this
        rw [decide_eq_true_eq] at this
        have h3 : ¬ dyF L j * dxF L e ≤ dyF L e * dxF L j := this
        omega
theorem noway {yu ye a ae N : Int} (s1 : yu < N * a) (s2 : N * (ae - a) ≤ ye - yu) (s3 : 0 < ae - a) (ha : 0 < a) (hl : ye * a ≤ yu * ae) : False := by
  have r1 : yu * (ae - a) < N * a * (ae - a) := Int.mul_lt_mul_of_pos_right s1 s3
  have r2 : N * (ae - a) * a ≤ (ye - yu) * a := Int.mul_le_mul_of_nonneg_right s2 (by omega)
  have r3 : N * (ae - a) * a = N * a * (ae - a) := Int.mul_right_comm _ _ _
  have r4 : (ye - yu) * a = ye * a - yu * a := Int.sub_mul _ _ _
  have r5 : yu * (ae - a) = yu * ae - yu * a := Int.mul_sub _ _ _
  omega
theorem steeper {ye yj ae b N : Int} (h1 : N * ae ≤ ye) (h2 : ye * b < yj * ae) (h3 : 0 < ae) (h4 : ae < b) : N * (b - ae) < yj - ye := by
  have r1 : N * ae * (b - ae) ≤ ye * (b - ae) := Int.mul_le_mul_of_nonneg_right h1 (by omega)
  have r2 : ye * (b - ae) = ye * b - ye * ae := Int.mul_sub _ _ _
  have r3 : (yj - ye) * ae = yj * ae - ye * ae := Int.sub_mul _ _ _
  have r4 : N * (b - ae) * ae = N * ae * (b - ae) := Int.mul_right_comm _ _ _
  exact Int.lt_of_mul_lt_mul_right (by omega : N * (b - ae) * ae < (yj - ye) * ae) (by omega)
def wL (N D : Int) (p : Int × Int) : Int := D * p.2 - N * p.1
theorem wL_diff (N D : Int) (L : List (Int × Int)) (j : Nat) : wL N D (nth L j) = wL N D (nth L 0) + (D * dyF L j - N * dxF L j) := by
  unfold wL dyF dxF; rw [Int.mul_sub, Int.mul_sub]; omega
/-- How often a slope comes: from the first to the last point of least weight. -/
theorem hull_cnt (N D : Int) (hD : 0 < D) (hco : Nat.Coprime N.natAbs D.natAbs) : ∀ (k : Nat) (L : List (Int × Int)), okL L → L.length ≤ k → ∀ u v, u ≤ v → v < L.length →
    (∀ j, j < L.length → wL N D (nth L u) ≤ wL N D (nth L j) ∧ (j < u → wL N D (nth L u) < wL N D (nth L j)) ∧ (v < j → wL N D (nth L u) < wL N D (nth L j))) → wL N D (nth L v) = wL N D (nth L u) →
    (slopesF (hullF k L)).count (N, D) = ((nth L v).1 - (nth L u).1).toNat
  | 0, L, _, hl, u, v, huv, hv, _, _ => by omega
  | k + 1, L, hok, hl, u, v, huv, hv, hmin, heq => by
    by_cases hl1 : L.length ≤ 1
    · rw [hullF_small hl1]
      have : u = v := by omega
      subst this
      simp [slopesF, slP]
    · obtain ⟨e1, e2⟩ := endE_le L L.length
      have hlow := endE_low hok (by omega) L.length (Nat.le_refl _)
      have hhigh := endE_high hok (by omega) L.length (Nat.le_refl _)
      rw [hullF_step hl1, count_cons']
      obtain ⟨e, he⟩ : ∃ e, endE L L.length = e := ⟨_, rfl⟩
      rw [he] at e1 e2 hlow hhigh ⊢
      have hel : e < L.length := by omega
      have hxe := dx_pos hok e1 hel
      have hb0 := hok.1 0 (by omega)
      have hbe := hok.1 e hel
      unfold okP at hb0 hbe
      have hiff := fr_iff (n := (nth L e).2 - (nth L 0).2) (d := (nth L e).1 - (nth L 0).1) (N := N) (D := D) (by unfold dxF at hxe; omega) (by omega) (by omega) (by omega) hD hco
      have hiff2 : (sideF (nth L 0) (nth L e)).2.2 = (N, D) ↔ D * dyF L e = N * dxF L e := hiff
      have hdl : (L.drop e).length = L.length - e := List.length_drop
      have mulD : ∀ x y : Int, x ≤ y → D * x ≤ D * y := fun x y h => Int.mul_le_mul_of_nonneg_left h (by omega)
      have hlowD : ∀ j, 1 ≤ j → j < L.length → D * dyF L e * dxF L j ≤ D * dyF L j * dxF L e := fun j h1 h2 => by
        rw [Int.mul_assoc, Int.mul_assoc]; exact mulD _ _ (hlow j h1 (.inl h2) h2)
      have hhighD : ∀ j, e < j → j < L.length → D * dyF L e * dxF L j < D * dyF L j * dxF L e := fun j h1 h2 => by
        rw [Int.mul_assoc, Int.mul_assoc]; exact Int.mul_lt_mul_of_pos_left (hhigh j h1 h2) hD
      have hwe := wL_diff N D L e
      have hwu := wL_diff N D L u
      have hwv := wL_diff N D L v
      have hme := (hmin e hel).1
      have hm0 := hmin 0 (by omega)
      -- the rest, when its first point alone has the least weight
      have hrest : N * dxF L e ≤ D * dyF L e → (slopesF (hullF k (L.drop e))).count (N, D) = 0 := fun hge => by
        have := hull_cnt N D hD hco k (L.drop e) (hok.drop e) (by omega) 0 0 (Nat.le_refl _) (by omega) (fun j hj => by
          rw [hdl] at hj
          rw [nth_drop, nth_drop, Nat.add_zero]
          by_cases hj0 : j = 0
          · subst hj0
            exact ⟨Int.le_refl _, fun h => absurd h (by omega), fun h => absurd h (by omega)⟩
          · have hst := steeper hge (hhighD (e + j) (by omega) (by omega)) hxe (by
              have := hok.2 e (e + j) (by omega) (by omega)
              unfold dxF; omega)
            have hwj := wL_diff N D L (e + j)
            rw [Int.mul_sub] at hst
            exact ⟨by omega, fun h => absurd h (by omega), fun _ => by omega⟩) rfl
        rw [this]; simp
      by_cases hw : wL N D (nth L 0) = wL N D (nth L u)
      · have hu0 : u = 0 := by
          apply Decidable.byContradiction
          intro hc
          have := hm0.2.1 (by omega)
          omega
        subst hu0
        by_cases hv0 : v = 0
        · subst hv0
          have hne := (hmin e hel).2.2 (by omega)
          rw [if_neg (fun h => by have := hiff2.1 h; omega), hrest (by omega)]
          simp
        · have hxv := dx_pos hok (show 1 ≤ v by omega) hv
          have hlv := hlowD v (by omega) hv
          have dv : D * dyF L v = N * dxF L v := by omega
          rw [dv, Int.mul_right_comm N (dxF L v) (dxF L e)] at hlv
          have de1 : D * dyF L e ≤ N * dxF L e := Int.le_of_mul_le_mul_right hlv hxv
          have de2 : D * dyF L e = N * dxF L e := by omega
          have hev : e = v := by
            apply Decidable.byContradiction
            intro hc
            rcases Nat.lt_or_gt_of_ne hc with hlt | hlt
            · have h3 := hhighD v hlt hv
              rw [dv, de2, Int.mul_right_comm N (dxF L v) (dxF L e)] at h3
              omega
            · have := (hmin e hel).2.2 hlt
              omega
          subst hev
          rw [if_pos (hiff2.2 de2), hrest (by omega)]
          rfl
      · have hu1 : 1 ≤ u := by
          apply Decidable.byContradiction
          intro hc
          have : u = 0 := by omega
          subst this
          exact hw rfl
        have hul : u < L.length := by omega
        have hxu := dx_pos hok hu1 hul
        have s1 : D * dyF L u < N * dxF L u := by have := hm0.1; omega
        have hlu := hlowD u hu1 hul
        have heu : e ≤ u := by
          apply Decidable.byContradiction
          intro hc
          have hxx := hok.2 u e (by omega) hel
          exact noway s1 (by rw [Int.mul_sub]; omega) (show 0 < dxF L e - dxF L u by unfold dxF; omega) hxu hlu
        have hne : ¬ D * dyF L e = N * dxF L e := fun h => by
          rw [h] at hlu
          have r1 : D * dyF L u * dxF L e < N * dxF L u * dxF L e := Int.mul_lt_mul_of_pos_right s1 hxe
          rw [Int.mul_right_comm N (dxF L e) (dxF L u)] at hlu
          omega
        rw [if_neg (fun h => hne (hiff2.1 h)), Nat.zero_add]
        have := hull_cnt N D hD hco k (L.drop e) (hok.drop e) (by omega) (u - e) (v - e) (by omega) (by omega) (fun j hj => by
          rw [hdl] at hj
          rw [nth_drop, nth_drop, show e + (u - e) = u by omega]
          have := hmin (e + j) (by omega)
          exact ⟨this.1, fun h => this.2.1 (by omega), fun h => this.2.2 (by omega)⟩)
          (by rw [nth_drop, nth_drop, show e + (u - e) = u by omega, show e + (v - e) = v by omega]; exact heq)
        rw [this, nth_drop, nth_drop, show e + (u - e) = u by omega, show e + (v - e) = v by omega]
end Go.Proofs.Ytjlaclbgfidiiaa
