/- The best fraction of the reference is the convergent that pell.Best answers: put together from the check. No condition beyond those stated. -/
import Derived.Test.YtbdadckedhcibaaBestA
import Derived.Test.YtbdadckedhcibaaBestB
import Derived.Test.YtbdadckedhcibaaBestC
namespace Go.Proofs.Ytbdadckedhcibaa
open Go.RowKit Go.Shelf

theorem pick_keep {d p q : Int} {S : Int × Int} (h1 : S.2 ≠ 0) (h2 : nearF d p q S.1 S.2 = false) : pickF d p q S = S := by
  unfold pickF
  rw [h2, decide_eq_false h1]; rfl
theorem root_of {D q r : Nat} (hD : D ≤ 100) (hq : q ≤ 1000) (h1 : Nat.ble (r * r) (D * (q * q)) = true) (h2 : Nat.ble ((r + 1) * (r + 1)) (D * (q * q)) = false) : rootF ((D : Int) * q * q) = r := by
  have g1 := Nat.le_of_ble_eq_true h1
  have g2 := Nat.not_le_of_not_ble_eq_true (by rw [h2]; exact Bool.false_ne_true)
  have e : (D : Int) * q * q = ((D * (q * q) : Nat) : Int) := by push_cast; rw [Int.mul_assoc]
  have b1 : q * q ≤ 1000 * 1000 := Nat.mul_le_mul hq hq
  have b2 : D * (q * q) ≤ 100 * (1000 * 1000) := Nat.mul_le_mul hD b1
  rw [e]
  have hr : IsRoot ((D * (q * q) : Nat) : Int) r := by
    refine ⟨by omega, by exact_mod_cast g1, ?_⟩
    have : D * (q * q) < (r + 1) * (r + 1) := by omega
    exact_mod_cast this
  exact (rootF_spec _ (by omega) (by omega)).unique hr

theorem bScan_spec (D a : Nat) (hD : D ≤ 100) : ∀ (f q r k : Nat) (P Q P' : Int) (Q' : Nat), bScan D a f (q + 1) r k P Q P' Q' = true → q + f ≤ 1000 → Q ≠ 0 →
    bestR D q = (P, Q) → P = cvP D k → Q = cvQ D k → q < Q' → (∀ i, i < k → cvQ D (i + 1) ≤ q) → (Q' : Int) = cvQ D (k + 1) →
    ∀ j, j < f → ∃ K, bestR D (q + 1 + j) = (cvP D K, cvQ D K) ∧ ((q + 1 + j : Nat) : Int) < cvQ D (K + 1) ∧ ∀ i, i < K → cvQ D (i + 1) ≤ ((q + 1 + j : Nat) : Int)
  | 0, _, _, _, _, _, _, _, _, _, _, _, _, _, _, _, _, j, hj => by omega
  | f + 1, q, r, k, P, Q, P', Q', h, hf, hQ, hb, eP, eQ, hlt, hbel, eQ', j, hj => by
    have h' : (bif Nat.ble (r * r) (D * ((q + 1) * (q + 1))) then bif Nat.ble ((r + 1) * (r + 1)) (D * ((q + 1) * (q + 1))) then false else
      bif Nat.ble (q + 1 + 1) Q' then
        bif nearF D r (q + 1 : Nat) P Q then false else bif nearF D (r + 1 : Nat) (q + 1 : Nat) P Q then false else
        bScan D a f (q + 1 + 1) (bif Nat.ble ((r + a + 1) * (r + a + 1)) (D * ((q + 1 + 1) * (q + 1 + 1))) then r + a + 1 else r + a) k P Q P' Q'
      else bif decide (stepR D (q + 1 : Nat) r (P, Q) = (P', (Q' : Int))) && Nat.beq (q + 1) Q' && decide (cvP D (k + 1) = P') && decide (cvQ D (k + 1) = (Q' : Int)) && decide (Q' < cvQ D (k + 2)) then
        bScan D a f (q + 1 + 1) (bif Nat.ble ((r + a + 1) * (r + a + 1)) (D * ((q + 1 + 1) * (q + 1 + 1))) then r + a + 1 else r + a) (k + 1) P' Q' (cvP D (k + 2)) (cvQ D (k + 2)).toNat
      else false else false) = true := h
    obtain ⟨h1, h2⟩ := cond_t h'
    obtain ⟨h3, h4⟩ := cond_f h2
    have hr := root_of hD (by omega) h1 h3
    have hstep : bestR D (q + 1) = stepR D (q + 1 : Nat) r (P, Q) := by
      show stepR D ((q : Int) + 1) (rootF (D * ((q : Int) + 1) * ((q : Int) + 1))) (bestR D q) = _
      rw [hb]
      have : rootF (D * ((q : Int) + 1) * ((q : Int) + 1)) = r := hr
      rw [this]; rfl
    clear h h' h1 h2 h3 hr
    generalize (bif Nat.ble ((r + a + 1) * (r + a + 1)) (D * ((q + 1 + 1) * (q + 1 + 1))) then r + a + 1 else r + a) = r' at h4
    cases hc : Nat.ble (q + 1 + 1) Q' with
    | true =>
      rw [hc] at h4
      obtain ⟨h5, h6⟩ := cond_f (c := nearF D r (q + 1 : Nat) P Q) h4
      obtain ⟨h7, h8⟩ := cond_f h6
      have hle := Nat.le_of_ble_eq_true hc
      have hb' : bestR D (q + 1) = (P, Q) := by
        rw [hstep]
        unfold stepR
        rw [pick_keep (S := (P, Q)) hQ h5]
        exact pick_keep (S := (P, Q)) hQ h7
      have hbel' : ∀ i, i < k → cvQ D (i + 1) ≤ ((q + 1 : Nat) : Int) := fun i hi => by have := hbel i hi; omega
      cases j with
      | zero =>
        refine ⟨k, by rw [Nat.add_zero, hb', eP, eQ], ?_, hbel'⟩
        rw [← eQ']; omega
      | succ j =>
        have := bScan_spec D a hD f (q + 1) r' k P Q P' Q' h8 (by omega) hQ hb' eP eQ (by omega) hbel' eQ' j (by omega)
        rw [show q + 1 + (j + 1) = q + 1 + 1 + j by omega]
        exact this
    | false =>
      rw [hc] at h4
      obtain ⟨h5, h6⟩ := cond_t (c := (decide (stepR D (q + 1 : Nat) r (P, Q) = (P', (Q' : Int))) && Nat.beq (q + 1) Q' && decide (cvP D (k + 1) = P') && decide (cvQ D (k + 1) = (Q' : Int)) && decide (Q' < cvQ D (k + 2)))) h4
      simp only [Bool.and_eq_true, decide_eq_true_eq, Nat.beq_eq] at h5
      obtain ⟨⟨⟨⟨g1, g2⟩, g3⟩, g4⟩, g5⟩ := h5
      have hb' : bestR D (q + 1) = (P', (Q' : Int)) := hstep.trans g1
      have hbel' : ∀ i, i < k + 1 → cvQ D (i + 1) ≤ ((q + 1 : Nat) : Int) := fun i hi => by
        by_cases e : i = k
        · subst e; rw [g4]; omega
        · have := hbel i (by omega); omega
      cases j with
      | zero =>
        refine ⟨k + 1, by rw [Nat.add_zero, hb', g3, g4], ?_, hbel'⟩
        have : (cvQ D (k + 1 + 1)) = cvQ D (k + 2) := rfl
        omega
      | succ j =>
        have := bScan_spec D a hD f (q + 1) r' (k + 1) P' Q' (cvP D (k + 2)) (cvQ D (k + 2)).toNat h6 (by omega) (by omega) hb' g3.symm g4.symm (by omega) hbel' (by
          show ((cvQ D (k + 2)).toNat : Int) = cvQ D (k + 2); omega) j (by omega)
        rw [show q + 1 + (j + 1) = q + 1 + 1 + j by omega]
        exact this

theorem bK_eq {d m : Int} (hd : isD d = true) (h1 : 1 ≤ m) (h2 : m ≤ 1000) {K : Nat} (h3 : m < cvQ d (K + 1)) (h4 : ∀ i, i < K → cvQ d (i + 1) ≤ m) : bK d m = K := by
  obtain ⟨-, -, -, g1, g2⟩ := b_all hd h1 h2
  rcases Nat.lt_trichotomy (bK d m) K with h | h | h
  · have := h4 _ h; omega
  · exact h
  · have := g2 _ h; omega

theorem bScan_part {lo n : Nat} (hc : bestCheck lo n = true) {d : Int} (hd : isD d = true) (h1 : (lo : Int) ≤ d) (h2 : d < lo + n) : bScanD d.toNat = true := by
  have := allBelow_at hc (k := d.toNat - lo) (by omega)
  rw [show ((d.toNat - lo + lo : Nat) : Int) = d by omega, hd, show d.toNat - lo + lo = d.toNat by omega] at this
  simpa using this
theorem bScanD_of {d : Int} (hd : isD d = true) : bScanD d.toNat = true := by
  have hb := isD_bd hd
  by_cases h0 : d < 12
  · exact bScan_part bestCheck0 hd (by omega) (by omega)
  by_cases h1 : d < 23
  · exact bScan_part bestCheck1 hd (by omega) (by omega)
  by_cases h2 : d < 34
  · exact bScan_part bestCheck2 hd (by omega) (by omega)
  by_cases h3 : d < 45
  · exact bScan_part bestCheck3 hd (by omega) (by omega)
  by_cases h4 : d < 56
  · exact bScan_part bestCheck4 hd (by omega) (by omega)
  by_cases h5 : d < 67
  · exact bScan_part bestCheck5 hd (by omega) (by omega)
  by_cases h6 : d < 78
  · exact bScan_part bestCheck6 hd (by omega) (by omega)
  by_cases h7 : d < 89
  · exact bScan_part bestCheck7 hd (by omega) (by omega)
  exact bScan_part bestCheck8 hd (by omega) (by omega)

/-- What the reference answers. -/
theorem best_all {d : Int} (hd : isD d = true) {m : Nat} (h1 : 1 ≤ m) (h2 : m ≤ 1000) : bestR d m = (cvP d (bK d m), cvQ d (bK d m)) := by
  have hb := isD_bd hd
  have hs := bScanD_of hd
  obtain ⟨D, rfl⟩ : ∃ D : Nat, d = D := ⟨d.toNat, by omega⟩
  rw [Int.toNat_natCast] at hs
  unfold bScanD at hs
  rw [Bool.and_eq_true, decide_eq_true_eq] at hs
  obtain ⟨s1, s2⟩ := hs
  obtain ⟨c1, c2, c3, c4, c5⟩ := b_all hd (m := 1) (by omega) (by omega)
  have hb1 : bestR D 1 = (cvP D (bK D 1), cvQ D (bK D 1)) := s1
  by_cases hm : m = 1
  · subst hm; exact hb1
  · have hne : cvQ D (bK D 1) ≠ 0 := by
      intro e
      have e1 : (bestR D 1).2 ≠ 0 := by
        show (stepF D 1 (0, 0)).2 ≠ 0
        unfold stepF stepR
        have : pickF D (rootF (D * 1 * 1)) 1 (0, 0) = (rootF (D * 1 * 1), 1) := rfl
        rw [this]
        unfold pickF
        cases (decide ((rootF (D * 1 * 1), (1 : Int)).2 = 0) || nearF D (rootF (D * 1 * 1) + 1) 1 (rootF (D * 1 * 1), (1 : Int)).1 (rootF (D * 1 * 1), (1 : Int)).2) <;> simp
      rw [hb1] at e1
      exact e1 e
    obtain ⟨K, k1, k2, k3⟩ := bScan_spec D (rootF D).toNat (by omega) 999 1 (rootF (D * 2 * 2)).toNat (bK D 1) _ _ _ _ s2 (by omega) hne hb1 rfl rfl (by omega) c5 (by omega) (m - 2) (by omega)
    rw [show 1 + 1 + (m - 2) = m by omega] at k1 k2 k3
    rw [k1, bK_eq hd (by omega) (by omega) k2 k3]
end Go.Proofs.Ytbdadckedhcibaa
