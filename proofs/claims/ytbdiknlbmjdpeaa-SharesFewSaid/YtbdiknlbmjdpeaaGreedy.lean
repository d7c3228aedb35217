/- The greedy sum and Engel's, plainly. No condition. -/
import Derived.Test.YtbdiknlbmjdpeaaFind
namespace Go.Proofs.Ytbdiknlbmjdpeaa
/-- The least d of which 1/d is at most num/den. -/
def ceilD (num den : Nat) : Nat := (den + num - 1) / num
theorem ceil_le {num den d : Nat} (hn : 0 < num) : ceilD num den ≤ d ↔ den ≤ num * d := by
  unfold ceilD
  rw [← Nat.lt_succ_iff, Nat.div_lt_iff_lt_mul hn, Nat.succ_mul, Nat.mul_comm d num]
  omega
theorem ceil_ok {num den : Nat} (hn : 0 < num) : den ≤ num * ceilD num den := (ceil_le hn).1 (Nat.le_refl _)
theorem ceil_left {num den : Nat} (hn : 0 < num) (hd : 0 < den) : num * ceilD num den - den < num := by
  have h := Nat.div_mul_le_self (den + num - 1) num
  unfold ceilD
  rw [Nat.mul_comm]
  omega
theorem ceil_pos {num den : Nat} (hn : 0 < num) (hd : 0 < den) : 0 < ceilD num den := by
  have h := ceil_ok (den := den) hn
  rcases Nat.eq_zero_or_pos (ceilD num den) with e | e
  · rw [e] at h; omega
  · exact e
theorem ceil_scale {num den a b : Nat} (hn : 0 < num) (ha : 0 < a) (h : num * b = a * den) : ceilD num den = ceilD a b := by
  have e : ∀ d, ceilD num den ≤ d ↔ ceilD a b ≤ d := by
    intro d
    rw [ceil_le hn, ceil_le ha]
    constructor
    · intro g
      have g2 : a * den ≤ a * (num * d) := Nat.mul_le_mul_left a g
      have g3 : num * b ≤ num * (a * d) := by rw [h, Nat.mul_left_comm]; exact g2
      exact Nat.le_of_mul_le_mul_left g3 hn
    · intro g
      have g2 : num * b ≤ num * (a * d) := Nat.mul_le_mul_left num g
      have g3 : a * den ≤ a * (num * d) := by rw [← h, Nat.mul_left_comm]; exact g2
      exact Nat.le_of_mul_le_mul_left g3 ha
  exact Nat.le_antisymm ((e _).2 (Nat.le_refl _)) ((e _).1 (Nat.le_refl _))
/-- The greedy sum; none: a denominator would be above 10^12. -/
def grd : Nat → Nat → Nat → Option (List Nat)
  | 0, num, _ => if num = 0 then some [] else none
  | k + 1, num, den => if num = 0 then some [] else if 1000000000000 < ceilD num den then none else (grd k (num * ceilD num den - den) (den * ceilD num den)).map (ceilD num den :: ·)
theorem grd_zero (k den : Nat) : grd k 0 den = some [] := by cases k <;> simp [grd]
theorem grd_big {k num den : Nat} (hn : 0 < num) (h : 1000000000000 < ceilD num den) : grd k num den = none := by
  cases k with
  | zero => unfold grd; rw [if_neg (by omega)]
  | succ k => unfold grd; rw [if_neg (by omega), if_pos h]
theorem grd_step {k num den : Nat} (hn : 0 < num) (h : ceilD num den ≤ 1000000000000) : grd (k + 1) num den = (grd k (num * ceilD num den - den) (den * ceilD num den)).map (ceilD num den :: ·) := by
  conv => lhs; unfold grd
  rw [if_neg (by omega), if_neg (by omega)]
theorem grd_scale : ∀ (k : Nat) {num den a b : Nat}, 0 < den → 0 < b → num * b = a * den → grd k num den = grd k a b
  | 0, num, den, a, b, hd, hb, h => by
    unfold grd
    have e : num = 0 ↔ a = 0 := by
      constructor
      · rintro rfl
        rw [Nat.zero_mul] at h
        rcases Nat.mul_eq_zero.1 h.symm with h | h <;> omega
      · rintro rfl
        rw [Nat.zero_mul] at h
        rcases Nat.mul_eq_zero.1 h with h | h <;> omega
    by_cases g : num = 0
    · rw [if_pos g, if_pos (e.1 g)]
    · rw [if_neg g, if_neg (mt e.2 g)]
  | k + 1, num, den, a, b, hd, hb, h => by
    have e : num = 0 ↔ a = 0 := by
      constructor
      · rintro rfl
        rw [Nat.zero_mul] at h
        rcases Nat.mul_eq_zero.1 h.symm with h | h <;> omega
      · rintro rfl
        rw [Nat.zero_mul] at h
        rcases Nat.mul_eq_zero.1 h with h | h <;> omega
    by_cases g : num = 0
    · rw [g, e.1 g, grd_zero, grd_zero]
    · have ga := mt e.2 g
      have ec := ceil_scale (show 0 < num by omega) (show 0 < a by omega) h
      by_cases gb : 1000000000000 < ceilD num den
      · rw [grd_big (by omega) gb, grd_big (by omega) (by rw [← ec]; exact gb)]
      · have cp := ceil_pos (show 0 < num by omega) hd
        rw [grd_step (by omega) (by omega), grd_step (by omega) (by omega), ← ec, grd_scale k (Nat.mul_pos hd cp) (Nat.mul_pos hb cp) (minus_scale h)]
/-- Engel's numbers. -/
def eng : Nat → Nat → Nat → List Nat
  | 0, _, _ => []
  | k + 1, left, b => if left = 0 then [] else ceilD left b :: eng k (left * ceilD left b - b) b
/-- Each one is greater than d (d - 1), where d is the one before it. -/
def isRun : Nat → List Nat → Bool
  | _, [] => true
  | p, d :: t => decide (p * (p - 1) < d) && decide (d ≤ 1000000000000) && isRun d t
theorem grd_props : ∀ (k : Nat) {num den p : Nat} {L : List Nat}, num ≤ k → 0 < den → (0 < num → num * (p - 1) < den ∧ (num * (p * (p - 1)) < den)) → grd k num den = some L → L.length ≤ num ∧ isRun p L = true ∧ isum num den L = true
  | 0, num, den, p, L, hk, hd, _, h => by
    have : num = 0 := by omega
    subst this
    rw [grd_zero] at h
    cases h
    exact ⟨Nat.le_refl _, rfl, rfl⟩
  | k + 1, num, den, p, L, hk, hd, hp, h => by
    by_cases hn : num = 0
    · subst hn
      rw [grd_zero] at h
      cases h
      exact ⟨Nat.le_refl _, rfl, rfl⟩
    · have hn' : 0 < num := by omega
      by_cases hb : 1000000000000 < ceilD num den
      · rw [grd_big hn' hb] at h; cases h
      · rw [grd_step hn' (by omega)] at h
        have c1 := ceil_ok (den := den) hn'
        have c2 := ceil_left hn' hd
        have c3 := ceil_pos hn' hd
        have c4 : num * (ceilD num den - 1) < den := by
          apply Decidable.byContradiction
          intro hc
          have := (ceil_le (den := den) hn' (d := ceilD num den - 1)).2 (Nat.le_of_not_lt hc)
          omega
        obtain ⟨c, hc⟩ : ∃ c, ceilD num den = c := ⟨_, rfl⟩
        rw [hc] at h c1 c2 c3 c4 hb
        cases hg : grd k (num * c - den) (den * c) with
        | none => rw [hg] at h; cases h
        | some M =>
          rw [hg] at h
          cases h
          have hq : 0 < num * c - den → (num * c - den) * (c - 1) < den * c ∧ (num * c - den) * (c * (c - 1)) < den * c := by
            intro _
            obtain ⟨e, rfl⟩ : ∃ e, c = e + 1 := ⟨c - 1, by omega⟩
            simp only [Nat.add_sub_cancel] at c4 ⊢
            have k1 : num * (e + 1) * e < den * (e + 1) := by
              rw [Nat.mul_right_comm]; exact Nat.mul_lt_mul_of_pos_right c4 (by omega)
            have k2 : (num * (e + 1) - den) * e ≤ num * (e + 1) * e - den * e := by rw [Nat.sub_mul]; exact Nat.le_refl _
            have k3 : den * (e + 1) = den * e + den := by rw [Nat.mul_add, Nat.mul_one]
            have k4 : (num * (e + 1) - den) * e < den := by omega
            refine ⟨by have : den ≤ den * (e + 1) := Nat.le_mul_of_pos_right _ (by omega); omega, ?_⟩
            rw [Nat.mul_left_comm, Nat.mul_comm (e + 1)]
            exact Nat.mul_lt_mul_of_pos_right k4 (by omega)
          obtain ⟨g1, g2, g3⟩ := grd_props k (by omega) (Nat.mul_pos hd c3) hq hg
          obtain ⟨p1, p2⟩ := hp hn'
          refine ⟨by simp only [List.length_cons]; omega, ?_, ?_⟩
          · simp only [isRun, Bool.and_eq_true, decide_eq_true_eq]
            refine ⟨⟨?_, by omega⟩, g2⟩
            apply Decidable.byContradiction
            intro hcc
            have : num * c ≤ num * (p * (p - 1)) := Nat.mul_le_mul_left _ (by omega)
            omega
          · simp only [isum, Bool.and_eq_true, decide_eq_true_eq]
            exact ⟨c1, g3⟩
end Go.Proofs.Ytbdiknlbmjdpeaa
