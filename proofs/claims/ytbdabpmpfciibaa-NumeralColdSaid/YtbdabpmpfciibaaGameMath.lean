/- Cold pairs, plainly: each number is in just one, and from a pair that is not cold some move leads to one. No condition beyond those stated. -/
import Derived.Test.YtbdabpmpfciibaaColdMath
import Derived.Test.YtbdabpmpfciibaaColds
namespace Go.Proofs.Ytbdabpmpfciibaa

theorem coldA_shift {i : Int} (h1 : 1 ≤ i) (h2 : i ≤ 100000000) : shN (coldA i) = coldA i + i ∧ lastF (enc (coldA i)) % 2 = 0 ∧ 1 ≤ coldA i := by
  obtain ⟨a1, a2⟩ := coldA_near h1 (by omega)
  have hb := coldA_bd (n := i) (by omega) (by omega)
  obtain ⟨N, hN⟩ : ∃ N, coldA i = N := ⟨_, rfl⟩
  rw [hN] at a1 a2 hb ⊢
  have hn1 : 1 ≤ N := by omega
  have hn := isNum_mk (n := N) (by omega) (by omega)
  have hs := shN_of hn (d := N + i) (by omega) (by omega)
  refine ⟨hs, ?_, hn1⟩
  have s2 := (near_sgn hn hn1).2
  rw [hs] at s2
  by_cases h : lastF (enc N) % 2 = 0
  · exact h
  · have := s2 (by omega)
    omega
theorem coldA_lt {i j : Int} (h0 : 0 ≤ i) (h : i < j) (hj : j ≤ 100000000) : coldA i < coldA j := by
  have h2 := coldA_near (n := j) (by omega) (by omega)
  by_cases e : i = 0
  · subst e
    rw [coldA_0]; omega
  · have h1 := coldA_near (n := i) (by omega) (by omega)
    omega
theorem coldA_inj {i j : Int} (h0 : 0 ≤ i) (h1 : 0 ≤ j) (hi : i ≤ 100000000) (hj : j ≤ 100000000) (h : coldA i = coldA j) : i = j := by
  by_cases a : i < j
  · have := coldA_lt h0 a hj; omega
  · by_cases b : j < i
    · have := coldA_lt h1 b hi; omega
    · omega
theorem coldB_inj {i j : Int} (h0 : 0 ≤ i) (h1 : 0 ≤ j) (hi : i ≤ 100000000) (hj : j ≤ 100000000) (h : coldA i + i = coldA j + j) : i = j := by
  by_cases a : i < j
  · have := coldA_lt h0 a hj; omega
  · by_cases b : j < i
    · have := coldA_lt h1 b hi; omega
    · omega
/-- No number is both a lesser heap and a greater one. -/
theorem cold_apart {i j : Int} (h0 : 1 ≤ i) (h1 : 1 ≤ j) (hi : i ≤ 100000000) (hj : j ≤ 100000000) : coldA i ≠ coldA j + j := by
  intro e
  obtain ⟨-, ei, -⟩ := coldA_shift h0 hi
  obtain ⟨sj, ej, pj⟩ := coldA_shift h1 hj
  have hb := coldA_bd (n := j) (by omega) (by omega)
  have hn := isNum_mk (n := coldA j) (by omega) (by omega)
  rw [e, ← sj, enc_shift hn, lastF_up 1 _ (enc_ne hn pj)] at ei
  omega
theorem isCold_mk {a b i : Int} (h : 0 ≤ i) (ha : a = coldA i) (hb : b = coldA i + i) : isCold a b = true ∧ isCold b a = true := by
  subst ha hb
  have e1 : coldA i + i - coldA i = i := by omega
  have e2 : coldA i - (coldA i + i) = -i := by omega
  have f1 : ¬ i < 0 := by omega
  unfold isCold
  rw [e1, e2]
  unfold cpA cpB
  rw [if_neg f1, if_neg f1]
  by_cases e : i = 0
  · subst e
    simp [coldA_0]
  · have f2 : -i < 0 := by omega
    rw [if_pos f2, if_pos f2, Int.neg_neg]
    constructor
    · first | (simp; done) | (simp; omega)
    · first | (simp; done) | (simp; omega)
theorem isCold_elim {a b : Int} (h : isCold a b = true) : (a ≤ b ∧ a = coldA (b - a) ∧ b = coldA (b - a) + (b - a)) ∨ (b < a ∧ b = coldA (a - b) ∧ a = coldA (a - b) + (a - b)) := by
  unfold isCold at h
  rw [Bool.and_eq_true, beq_iff_eq, beq_iff_eq] at h
  unfold cpA cpB at h
  by_cases f : b - a < 0
  · rw [if_pos f, if_pos f] at h
    have e : -(b - a) = a - b := by omega
    rw [e] at h
    right
    omega
  · rw [if_neg f, if_neg f] at h
    left
    omega
theorem isCold_sym {a b : Int} (h : isCold a b = true) : isCold b a = true := by
  rcases isCold_elim h with ⟨h1, h2, h3⟩ | ⟨h1, h2, h3⟩
  · exact (isCold_mk (i := b - a) (by omega) h2 h3).2
  · exact (isCold_mk (i := a - b) (by omega) h2 h3).1
theorem cold_uniq {a b c : Int} (ha : 0 ≤ a) (ha' : a ≤ 10000000) (hb : 0 ≤ b) (hb' : b ≤ 10000000) (hc : 0 ≤ c) (hc' : c ≤ 10000000) (h1 : isCold a b = true) (h2 : isCold a c = true) : b = c := by
  have key : ∀ {x y : Int}, a ≤ x → y < a → x ≤ 10000000 → 0 ≤ y → a = coldA (x - a) → x = coldA (x - a) + (x - a) → y = coldA (a - y) → a = coldA (a - y) + (a - y) → False := by
    intro x y k1 k2 k3 k4 k5 k6 k7 k8
    by_cases e : x - a = 0
    · rw [e, coldA_0] at k5
      have := coldA_bd (n := a - y) (by omega) (by omega)
      omega
    · exact cold_apart (i := x - a) (j := a - y) (by omega) (by omega) (by omega) (by omega) (k5.symm.trans k8)
  rcases isCold_elim h1 with ⟨p1, p2, p3⟩ | ⟨p1, p2, p3⟩ <;> rcases isCold_elim h2 with ⟨q1, q2, q3⟩ | ⟨q1, q2, q3⟩
  · have := coldA_inj (i := b - a) (j := c - a) (by omega) (by omega) (by omega) (by omega) (p2.symm.trans q2)
    omega
  · exact absurd (key p1 q1 hb' hc p2 p3 q2 q3) id
  · exact absurd (key q1 p1 hc' hb q2 q3 p2 p3) id
  · have := coldB_inj (i := a - b) (j := a - c) (by omega) (by omega) (by omega) (by omega) (p3.symm.trans q3)
    omega
theorem cold_diag {a b n : Int} (h1 : isCold a b = true) (h2 : isCold (a - n) (b - n) = true) : n = 0 := by
  have e : b - n - (a - n) = b - a := by omega
  unfold isCold at h1 h2
  rw [e] at h2
  simp only [Bool.and_eq_true, beq_iff_eq] at h1 h2
  omega

/-- The heap that is cold together with one. -/
def pt (h : Int) : Int := if h = 0 then 0 else if lastF (enc h) % 2 = 1 then sumF (-1) (enc h) else shN h
theorem pt_cold {h : Int} (h0 : 0 ≤ h) (h1 : h ≤ 1000000) : isCold h (pt h) = true ∧ isCold (pt h) h = true ∧ 0 ≤ pt h ∧ pt h ≤ 2000000 := by
  unfold pt
  by_cases e : h = 0
  · rw [if_pos e, e]
    obtain ⟨g1, g2⟩ := isCold_mk (a := 0) (b := 0) (i := 0) (by omega) coldA_0.symm (by rw [coldA_0]; rfl)
    exact ⟨g1, g2, by omega, by omega⟩
  · rw [if_neg e]
    by_cases o : lastF (enc h) % 2 = 1
    · rw [if_pos o]
      obtain ⟨-, c1, c2, c3, c4⟩ := cold_odd (n := h) (by omega) (by omega) o
      obtain ⟨g1, g2⟩ := isCold_mk (a := sumF (-1) (enc h)) (b := h) (i := h - sumF (-1) (enc h)) (by omega) c4.symm (by rw [c4]; omega)
      exact ⟨g2, g1, by omega, by omega⟩
    · rw [if_neg o]
      obtain ⟨c1, c2, c3⟩ := cold_even (n := h) (by omega) (by omega) (by omega)
      obtain ⟨g1, g2⟩ := isCold_mk (a := h) (b := shN h) (i := shN h - h) (by omega) c3.symm (by rw [c3]; omega)
      exact ⟨g1, g2, by omega, by omega⟩
theorem cp_cold {d : Int} (h0 : -1000000 ≤ d) (h1 : d ≤ 1000000) : isCold (cpA d) (cpB d) = true ∧ cpB d - cpA d = d ∧ 0 ≤ cpA d ∧ 0 ≤ cpB d := by
  unfold cpA cpB
  by_cases f : d < 0
  · rw [if_pos f, if_pos f]
    have := coldA_bd (n := -d) (by omega) (by omega)
    exact ⟨(isCold_mk (i := -d) (by omega) rfl (by omega)).2, by omega, by omega, by omega⟩
  · rw [if_neg f, if_neg f]
    have := coldA_bd (n := d) (by omega) (by omega)
    exact ⟨(isCold_mk (i := d) (by omega) rfl rfl).1, by omega, by omega, by omega⟩
/-- From a pair that is not cold one of the three ways fits. -/
theorem warm_move {a b : Int} (a0 : 0 ≤ a) (a1 : a ≤ 1000000) (b0 : 0 ≤ b) (b1 : b ≤ 1000000) (h : isCold a b = false) :
    (cpA (b - a) ≤ a ∧ cpB (b - a) ≤ b) ∨ pt b ≤ a ∨ pt a ≤ b := by
  have half : ∀ {x y : Int}, 0 ≤ x → x ≤ 1000000 → x ≤ y → y ≤ 1000000 → x < coldA (y - x) → pt x ≤ y := by
    intro x y k1 k2 k3 k4 k5
    unfold pt
    by_cases e : x = 0
    · rw [if_pos e]; omega
    · rw [if_neg e]
      by_cases o : lastF (enc x) % 2 = 1
      · rw [if_pos o]
        obtain ⟨-, c1, c2, c3, c4⟩ := cold_odd (n := x) (by omega) (by omega) o
        omega
      · rw [if_neg o]
        obtain ⟨c1, c2, c3⟩ := cold_even (n := x) (by omega) (by omega) (by omega)
        by_cases f : shN x - x < y - x
        · omega
        · exfalso
          by_cases g : y - x < shN x - x
          · have := coldA_lt (by omega) g (by omega)
            omega
          · rw [show y - x = shN x - x by omega] at k5
            omega
  unfold cpA cpB
  by_cases f : b - a < 0
  · rw [if_pos f, if_pos f]
    have e : -(b - a) = a - b := by omega
    rw [e]
    by_cases g : coldA (a - b) ≤ b
    · exact .inl ⟨by omega, g⟩
    · exact .inr (.inl (half b0 b1 (by omega) a1 (by omega)))
  · rw [if_neg f, if_neg f]
    by_cases g : coldA (b - a) ≤ a
    · exact .inl ⟨g, by omega⟩
    · exact .inr (.inr (half a0 a1 (by omega) b1 (by omega)))
end Go.Proofs.Ytbdabpmpfciibaa
