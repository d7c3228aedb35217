/- The polygon of a product: no product of two polynomials is pure. Mathematics alone. -/
import Derived.Test.YtjlaclbgfidiiaaOrdMath
import Derived.Test.YtjlaclbgfidiiaaLawTimes
namespace Go.Proofs.Ytjlaclbgfidiiaa

/-- The orders of a polynomial's numbers. -/
def oF (q : Nat) (f : List Int) (i : Nat) : Nat := ordF q 40 (f.getD i 0)
theorem oF_ord {q : Nat} (hq : 2 ≤ q) {f : List Int} (hf : isPoly f = true) {i : Nat} (hi : i < f.length) (h0 : f.getD i 0 ≠ 0) : Ord q (f.getD i 0) (oF q f i) := by
  have hb := (isPoly_spec hf).2.2.2 i hi
  exact ord_form hq 40 _ h0 (by have : (2 : Nat) ^ 40 = 1099511627776 := by decide
                                omega)
theorem gauss_core {q : Nat} (hq : q ∈ [2, 3, 5, 7, 11, 13]) {f g : List Int} (hf : isPoly f = true) (hg : isPoly g = true) {i0 j0 : Nat} (hi : i0 < f.length) (hj : j0 < g.length) (fi : f.getD i0 0 ≠ 0) (gj : g.getD j0 0 ≠ 0)
    (hlt : ∀ i j, i < f.length → j < g.length → i + j = i0 + j0 → i ≠ i0 → f.getD i 0 ≠ 0 → g.getD j 0 ≠ 0 → oF q f i0 + oF q g j0 < oF q f i + oF q g j) :
    Ord q ((mulF f g).getD (i0 + j0) 0) (oF q f i0 + oF q g j0) := by
  have h2 := (pr_bounds hq).1
  rw [mulF_at (by omega)]
  refine full_ord (i0 := i0) ?_ _ hi fun i hin hne => ?_
  · rw [row_at hj]
    exact (oF_ord h2 hf hi fi).mul hq (oF_ord h2 hg hj gj)
  · unfold rowT
    split
    · rename_i hc
      obtain ⟨j, hjj⟩ : ∃ j, i0 + j0 - i = j := ⟨_, rfl⟩
      rw [hjj] at hc ⊢
      by_cases h1 : f.getD i 0 = 0
      · rw [h1, Int.zero_mul]; exact Int.dvd_zero _
      · by_cases h3 : g.getD j 0 = 0
        · rw [h3, Int.mul_zero]; exact Int.dvd_zero _
        · exact ((oF_ord h2 hf hin h1).mul hq (oF_ord h2 hg hc.2 h3)).dvd (hlt i j hin hc.2 (by omega) hne h1 h3)
    · exact Int.dvd_zero _
/-- The weight of a number at the slope N / D. -/
def wtF (q : Nat) (f : List Int) (N D : Int) (i : Nat) : Int := D * (oF q f i : Int) - N * (i : Int)
theorem wt_add {q : Nat} {f g : List Int} {N D : Int} {i j i0 j0 : Nat} (hD : 0 < D) (h : i + j = i0 + j0) (hw : wtF q f N D i0 + wtF q g N D j0 < wtF q f N D i + wtF q g N D j) : oF q f i0 + oF q g j0 < oF q f i + oF q g j := by
  unfold wtF at hw
  have e1 : N * (i : Int) + N * (j : Int) = N * (i0 : Int) + N * (j0 : Int) := by
    rw [← Int.mul_add, ← Int.mul_add, show (i : Int) + (j : Int) = (i0 : Int) + (j0 : Int) by omega]
  have e2 : D * ((oF q f i0 : Int) + (oF q g j0 : Int)) < D * ((oF q f i : Int) + (oF q g j : Int)) := by
    rw [Int.mul_add, Int.mul_add]; omega
  have := Int.lt_of_mul_lt_mul_left e2 (by omega)
  omega

theorem slope_trans {xi xe xj di de dj : Int} (he : 0 < de) (hi : 0 < di) (hj : 0 < dj) (h1 : xi * de ≤ xe * di) (h2 : xe * dj ≤ xj * de) : xi * dj ≤ xj * di := by
  have a1 : xi * de * dj ≤ xe * di * dj := Int.mul_le_mul_of_nonneg_right h1 (by omega)
  have a2 : xe * dj * di ≤ xj * de * di := Int.mul_le_mul_of_nonneg_right h2 (by omega)
  have e1 : xi * de * dj = xi * dj * de := Int.mul_right_comm _ _ _
  have e2 : xe * di * dj = xe * dj * di := Int.mul_right_comm _ _ _
  have e3 : xj * de * di = xj * di * de := Int.mul_right_comm _ _ _
  exact Int.le_of_mul_le_mul_right (by omega : xi * dj * de ≤ xj * di * de) he
def dxF (L : List (Int × Int)) (j : Nat) : Int := (nth L j).1 - (nth L 0).1
def dyF (L : List (Int × Int)) (j : Nat) : Int := (nth L j).2 - (nth L 0).2
theorem dx_pos {L : List (Int × Int)} (h : okL L) {j : Nat} (h1 : 1 ≤ j) (hj : j < L.length) : 0 < dxF L j := by
  have := h.2 0 j (by omega) hj
  unfold dxF; omega
/-- No point lies below the first side. -/
theorem endE_low {L : List (Int × Int)} (h : okL L) (h2 : 2 ≤ L.length) : ∀ i, i ≤ L.length → ∀ j, 1 ≤ j → (j < i ∨ j = 1) → j < L.length → dyF L (endE L i) * dxF L j ≤ dyF L j * dxF L (endE L i)
  | 0, _, j, h1, hj, hl => by
    have e : j = 1 := by omega
    subst e
    exact Int.le_refl _
  | i + 1, hi, j, h1, hj, hl => by
    have ih := endE_low h h2 i (by omega)
    obtain ⟨l1, l2⟩ := endE_le L i
    obtain ⟨e, he⟩ : ∃ e, endE L i = e := ⟨_, rfl⟩
    rw [he] at ih l1 l2
    have hel : e < L.length := by omega
    by_cases hc : e < i ∧ seesF (nth L 0) (nth L e) (nth L i) = true
    · rw [endE_yes he hc.1 hc.2]
      have hs : dyF L i * dxF L e ≤ dyF L e * dxF L i := by
        have := hc.2
        unfold seesF at this
        exact of_decide_eq_true this
      by_cases hji : j = i
      · subst hji; exact Int.le_refl _
      · exact slope_trans (dx_pos h l1 hel) (dx_pos h (by omega) (by omega)) (dx_pos h h1 hl) hs (ih j h1 (by omega) hl)
    · rw [endE_no he hc]
      by_cases hji : j < i ∨ j = 1
      · exact ih j h1 hji hl
      · have hei : e < i := by omega
        have hji2 : j = i := by omega
        subst hji2
        have : ¬ seesF (nth L 0) (nth L e) (nth L j) = true := fun hs => hc ⟨hei, hs⟩
        unfold seesF at this
        rw [decide_eq_true_eq] at this
        have h3 : ¬ dyF L j * dxF L e ≤ dyF L e * dxF L j := this
        omega

theorem pts_mem {f : List Int} {q : Nat} : ∀ (k i : Nat), i < k → f.getD i 0 ≠ 0 → ∃ j, j < (ptsP f q k).length ∧ nth (ptsP f q k) j = ((i : Int), (oF q f i : Int))
  | 0, i, h, _ => absurd h (by omega)
  | k + 1, i, h, hi => by
    by_cases hz : f.getD k 0 = 0
    · rw [ptsP_no hz]
      exact pts_mem k i (by
        by_cases e : i = k
        · subst e; exact absurd hz hi
        · omega) hi
    · rw [ptsP_yes hz]
      by_cases e : i = k
      · subst e
        refine ⟨(ptsP f q i).length, by simp, ?_⟩
        rw [nth_snoc, if_neg (by omega), if_pos rfl]
        rfl
      · obtain ⟨j, h1, h2⟩ := pts_mem (q := q) k i (by omega) hi
        exact ⟨j, by simp; omega, by rw [nth_snoc, if_pos h1, h2]⟩
theorem pts_first {f : List Int} {q : Nat} (h0 : f.getD 0 0 ≠ 0) : ∀ k : Nat, 0 < (ptsP f q (k + 1)).length ∧ nth (ptsP f q (k + 1)) 0 = (0, (oF q f 0 : Int))
  | 0 => by
    rw [ptsP_yes h0]
    exact ⟨by simp [ptsP], rfl⟩
  | k + 1 => by
    obtain ⟨h1, h2⟩ := pts_first (q := q) h0 k
    by_cases hz : f.getD (k + 1) 0 = 0
    · rw [ptsP_no hz]; exact ⟨h1, h2⟩
    · rw [ptsP_yes hz]
      exact ⟨by simp, by rw [nth_snoc, if_pos h1, h2]⟩
theorem pts_last {f : List Int} {q k : Nat} (h0 : f.getD k 0 ≠ 0) : 0 < (ptsP f q (k + 1)).length ∧ nth (ptsP f q (k + 1)) ((ptsP f q (k + 1)).length - 1) = ((k : Int), (oF q f k : Int)) := by
  rw [ptsP_yes h0]
  refine ⟨by simp, ?_⟩
  rw [nth_snoc, List.length_append, List.length_singleton, Nat.add_sub_cancel, if_neg (by omega), if_pos rfl]
  rfl

/-- What it says that a polynomial is pure. -/
theorem pure_facts {h : List Int} {q : Nat} (hp : isPoly h = true) (hpu : pureF h q = true) : h.getD 0 0 ≠ 0 ∧ Nat.gcd ((oF q h (h.length - 1) : Int) - (oF q h 0 : Int)).natAbs (h.length - 1) = 1 ∧
    ∀ i, i < h.length → h.getD i 0 ≠ 0 → wtF q h ((oF q h (h.length - 1) : Int) - (oF q h 0 : Int)) ((h.length : Int) - 1) 0 ≤ wtF q h ((oF q h (h.length - 1) : Int) - (oF q h 0 : Int)) ((h.length : Int) - 1) i := by
  obtain ⟨l2, l7, hl, hb⟩ := isPoly_spec hp
  unfold pureF at hpu
  simp only [Bool.and_eq_true, Bool.not_eq_true', decide_eq_false_iff_not, decide_eq_true_eq] at hpu
  obtain ⟨⟨h0, h1⟩, hD⟩ := hpu
  obtain ⟨n, hn⟩ : ∃ n, h.length = n + 1 := ⟨h.length - 1, by omega⟩
  rw [hn, Nat.add_sub_cancel] at hl
  have hF := pts_first (q := q) h0 n
  have hLs := pts_last (q := q) hl
  have hM := fun i (hi : i < n + 1) (hne : h.getD i 0 ≠ 0) => pts_mem (f := h) (q := q) (n + 1) i hi hne
  have hok := pts_ok h q (n + 1) (by omega)
  have hS : polyS h q = hullF (ptsP h q (n + 1)).length (ptsP h q (n + 1)) := by unfold polyS; rw [hn]
  obtain ⟨L, hL⟩ : ∃ L, ptsP h q (n + 1) = L := ⟨_, rfl⟩
  rw [hL] at hF hLs hM hok hS
  have h2L : 2 ≤ L.length := by
    apply Decidable.byContradiction
    intro hc
    have e : L.length - 1 = 0 := by omega
    have h3 := hLs.2
    rw [e, hF.2] at h3
    simp only [Prod.mk.injEq] at h3
    omega
  obtain ⟨k, hk⟩ : ∃ k, L.length = k + 1 := ⟨L.length - 1, by omega⟩
  rw [hk, hullF_step (by omega)] at hS
  obtain ⟨e1, e2⟩ := endE_le L L.length
  have hlow := endE_low hok h2L L.length (Nat.le_refl _)
  obtain ⟨e, he⟩ : ∃ e, endE L L.length = e := ⟨_, rfl⟩
  rw [he] at hS e1 e2 hlow
  have hrest : (L.drop e).length ≤ 1 := by
    apply Decidable.byContradiction
    intro hc
    obtain ⟨k', rfl⟩ : ∃ k', k = k' + 1 := ⟨k - 1, by omega⟩
    rw [hS, hullF_step hc] at h1
    simp at h1
  rw [List.length_drop] at hrest
  have hee : e = L.length - 1 := by omega
  have hDe : frD ((oF q h n : Int) - (oF q h 0 : Int)) ((n : Int) - 0) = (n : Int) := by
    have h4 : (nth4 (polyS h q) 0).2.2.2 = frD ((nth L e).2 - (nth L 0).2) ((nth L e).1 - (nth L 0).1) := by rw [hS]; rfl
    rw [h4, hee, hLs.2, hF.2] at hD
    rw [hD, hn]; omega
  have o1 := ordF_le q 40 (h.getD n 0)
  have o2 := ordF_le q 40 (h.getD 0 0)
  have hgcd : Nat.gcd ((oF q h n : Int) - (oF q h 0 : Int)).natAbs n = 1 := by
    obtain ⟨g, N, D, hg, -, eD, g1, -, -, h6, -⟩ := fr_facts (n := (oF q h n : Int) - (oF q h 0 : Int)) (d := (n : Int) - 0) (by omega) (by omega) (by unfold oF; omega) (by unfold oF; omega)
    rw [hDe] at eD
    rw [← eD, Int.sub_zero] at h6
    have h7 : (n : Int) * 1 = (n : Int) * (g : Int) := by rw [Int.mul_one, Int.mul_comm]; exact h6
    have h8 := Int.eq_of_mul_eq_mul_left (by omega : (n : Int) ≠ 0) h7
    rw [Int.sub_zero, Int.natAbs_natCast] at hg
    rw [hg]; omega
  rw [hn, Nat.add_sub_cancel]
  refine ⟨h0, hgcd, fun i hi hne => ?_⟩
  unfold wtF
  rw [show ((n + 1 : Nat) : Int) - 1 = (n : Int) by omega]
  obtain ⟨j, hj, hji⟩ := hM i hi hne
  by_cases hj0 : j = 0
  · subst hj0
    rw [hF.2] at hji
    simp only [Prod.mk.injEq] at hji
    have : i = 0 := by omega
    subst this
    exact Int.le_refl _
  · have h9 := hlow j (by omega) (.inl hj) hj
    unfold dyF dxF at h9
    rw [hee, hLs.2, hF.2, hji] at h9
    simp only [Int.sub_zero] at h9
    rw [Int.sub_mul (oF q h i : Int)] at h9
    have c1 : (oF q h i : Int) * (n : Int) = (n : Int) * (oF q h i : Int) := Int.mul_comm _ _
    have c2 : (oF q h 0 : Int) * (n : Int) = (n : Int) * (oF q h 0 : Int) := Int.mul_comm _ _
    generalize ((oF q h n : Int) - (oF q h 0 : Int)) * (i : Int) = A at h9 ⊢
    generalize hB : (n : Int) * (oF q h i : Int) = B at h9 c1 ⊢
    generalize hC : (n : Int) * (oF q h 0 : Int) = C at h9 c2 ⊢
    rw [c1, c2] at h9
    simp only [Int.natCast_zero, Int.mul_zero, Int.sub_zero]
    omega

/-- No product is pure. -/
theorem pure_times {q : Nat} (hq : q ∈ [2, 3, 5, 7, 11, 13]) {f g : List Int} (hf : isPoly f = true) (hg : isPoly g = true) (hh : isPoly (mulF f g) = true) : pureF (mulF f g) q = false := by
  cases hpu : pureF (mulF f g) q with
  | false => rfl
  | true =>
    exfalso
    have h2 := (pr_bounds hq).1
    obtain ⟨h0, hgcd, hwt⟩ := pure_facts hh hpu
    obtain ⟨lf, -, tf, -⟩ := isPoly_spec hf
    obtain ⟨lg, -, tg, -⟩ := isPoly_spec hg
    have hlen := mulF_len (f := f) (g := g)
    obtain ⟨n, hn⟩ : ∃ n, f.length = n + 1 := ⟨f.length - 1, by omega⟩
    obtain ⟨m, hm⟩ : ∃ m, g.length = m + 1 := ⟨g.length - 1, by omega⟩
    rw [hn, Nat.add_sub_cancel] at tf
    rw [hm, Nat.add_sub_cancel] at tg
    have hl2 : (mulF f g).length = n + m + 1 := by rw [hlen, hn, hm]; omega
    rw [hl2] at hgcd hwt
    rw [show n + m + 1 - 1 = n + m by omega] at hgcd hwt
    rw [show ((n + m + 1 : Nat) : Int) - 1 = ((n + m : Nat) : Int) by omega] at hwt
    -- the ends
    have e0 : (mulF f g).getD 0 0 = f.getD 0 0 * g.getD 0 0 ∨ (mulF f g).getD 0 0 = 0 := by
      left
      rw [mulF_at (by omega), show f.length = f.length from rfl]
      have hz : ∀ k, 1 ≤ k → fullT f g k 0 = f.getD 0 0 * g.getD 0 0 := by
        intro k hk
        induction k with
        | zero => omega
        | succ k ih =>
          simp only [fullT]
          by_cases e : k = 0
          · subst e
            have := row_at (f := f) (g := g) (i := 0) (j := 0) (by omega)
            simp only [Nat.zero_add] at this
            simp only [fullT, this, Int.zero_add]
          · rw [ih (by omega)]
            have : rowT f g k g.length 0 = 0 := by unfold rowT; rw [if_neg (by omega)]
            rw [this, Int.add_zero]
      exact hz _ (by omega)
    have hfg : f.getD 0 0 ≠ 0 ∧ g.getD 0 0 ≠ 0 := by
      rcases e0 with e | e
      · rw [e] at h0
        exact ⟨fun h => h0 (by rw [h, Int.zero_mul]), fun h => h0 (by rw [h, Int.mul_zero])⟩
      · exact absurd e h0
    obtain ⟨f0, g0⟩ := hfg
    have q0 := gauss_core hq hf hg (i0 := 0) (j0 := 0) (by omega) (by omega) f0 g0 (fun i j _ _ h hne => absurd h (by omega))
    have q1 := gauss_core hq hf hg (i0 := n) (j0 := m) (by omega) (by omega) tf tg (fun i j _ _ h hne => absurd h (by omega))
    have u0 := q0.uniq h2 (oF_ord h2 hh (by omega) h0)
    have hnz : (mulF f g).getD (n + m) 0 ≠ 0 := by
      rcases q1.ne with h | h
      · exact h
      · omega
    have u1 := q1.uniq h2 (oF_ord h2 hh (by omega) hnz)
    -- the least weights
    obtain ⟨N, hN⟩ : ∃ N, ((oF q (mulF f g) (n + m) : Int) - (oF q (mulF f g) 0 : Int)) = N := ⟨_, rfl⟩
    rw [hN] at hgcd hwt
    obtain ⟨D, hD⟩ : ∃ D, ((n + m : Nat) : Int) = D := ⟨_, rfl⟩
    rw [hD] at hwt
    have D0 : 0 < D := by omega
    obtain ⟨i0, i1, i2, i3⟩ := argmin (fun i => wtF q f N D i) (fun i => f.getD i 0 ≠ 0) f.length ⟨0, by omega, f0⟩
    obtain ⟨j0, j1, j2, j3⟩ := argmin (fun i => wtF q g N D i) (fun i => g.getD i 0 ≠ 0) g.length ⟨0, by omega, g0⟩
    try simp only at i3
    try simp only at j3
    have q2 := gauss_core hq hf hg i1 j1 i2 j2 (fun i j hi hj h hne hfi hgj => wt_add (N := N) (D := D) D0 h (by
      have a1 := i3 i hi hfi
      have a2 := j3 j hj hgj
      by_cases hlt : i < i0
      · have := a1.2 hlt; omega
      · have := a2.2 (by omega); omega))
    have hnz2 : (mulF f g).getD (i0 + j0) 0 ≠ 0 := by
      rcases q2.ne with h | h
      · exact h
      · omega
    have u2 := q2.uniq h2 (oF_ord h2 hh (by omega) hnz2)
    have w2 := hwt (i0 + j0) (by omega) hnz2
    have a0 := (i3 0 (by omega) f0).1
    have b0 := (j3 0 (by omega) g0).1
    have an := (i3 n (by omega) tf).1
    have bm := (j3 m (by omega) tg).1
    unfold wtF at w2 a0 b0 an bm
    rw [← u0, ← u2] at w2
    rw [← u0, ← u1] at hN
    try simp only [Int.natCast_zero, Int.mul_zero, Int.sub_zero, Int.natCast_add, Int.mul_add] at w2
    try simp only [Int.natCast_zero, Int.mul_zero, Int.sub_zero, Int.natCast_add, Int.mul_add] at a0
    try simp only [Int.natCast_zero, Int.mul_zero, Int.sub_zero, Int.natCast_add, Int.mul_add] at b0
    try simp only [Int.natCast_zero, Int.mul_zero, Int.sub_zero, Int.natCast_add, Int.mul_add] at an
    try simp only [Int.natCast_zero, Int.mul_zero, Int.sub_zero, Int.natCast_add, Int.mul_add] at bm
    try simp only [Int.natCast_zero, Int.mul_zero, Int.sub_zero, Int.natCast_add, Int.mul_add] at hD
    try simp only [Int.natCast_zero, Int.mul_zero, Int.sub_zero, Int.natCast_add, Int.mul_add] at hN
    -- n (ord f_n - ord f_0) = N df
    have hNN : D * N = D * (oF q f n : Int) + D * (oF q g m : Int) - (D * (oF q f 0 : Int) + D * (oF q g 0 : Int)) := by
      rw [← hN, Int.mul_sub, Int.mul_add, Int.mul_add]
    have hDN : N * (n : Int) + N * (m : Int) = D * N := by rw [← Int.mul_add, hD, Int.mul_comm]
    have hfin : D * (oF q f n : Int) - N * (n : Int) = D * (oF q f 0 : Int) := by omega
    have hdv : D ∣ N * (n : Int) := ⟨(oF q f n : Int) - (oF q f 0 : Int), by rw [Int.mul_sub]; omega⟩
    have hdn : (n + m) ∣ N.natAbs * n := by
      have := Int.natAbs_dvd_natAbs.2 hdv
      rw [Int.natAbs_mul, Int.natAbs_natCast] at this
      rw [show D.natAbs = n + m by omega] at this
      exact this
    have hco : Nat.Coprime (n + m) N.natAbs := by
      show Nat.gcd _ _ = 1
      rw [Nat.gcd_comm]; exact hgcd
    have := Nat.le_of_dvd (by omega) (hco.dvd_of_dvd_mul_left hdn)
    omega
end Go.Proofs.Ytjlaclbgfidiiaa
