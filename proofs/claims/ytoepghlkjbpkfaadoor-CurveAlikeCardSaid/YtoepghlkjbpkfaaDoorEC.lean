/- Sums of points: closed, and undone by the opposite point. No condition beyond those stated. -/
import Derived.Test.YtoepghlkjbpkfaaDoorTw
namespace Go.Proofs.YtoepghlkjbpkfaaDoor

def iv (m y : Nat) : Nat := y ^ (m - 2) % m
/-- the quotient modulo a prime -/
def qF (x y m : Int) : Int := (x * ((iv m.toNat (y % m).toNat : Nat) : Int)) % m
theorem iv_all : ∀ m : Nat, m < 32 → isM (m : Int) = true → ∀ y : Nat, y < m → 0 < y → iv m y * y % m = 1 := by decide +kernel
theorem dom_alls : ((List.range 32).all fun m => !isM (m : Int) || (List.range m).all fun a => (List.range m).all fun b => Nat.beq a 0 || Nat.beq b 0 || !Nat.beq (a * b % m) 0) = true := by decide +kernel
theorem dom_all (m : Nat) (hm : m < 32) (h : isM (m : Int) = true) (a : Nat) (ha : a < m) (b : Nat) (hb : b < m) (he : a * b % m = 0) : a = 0 ∨ b = 0 := by
  have h1 := List.all_eq_true.1 dom_alls m (List.mem_range.2 hm)
  rw [h] at h1
  have h2 := List.all_eq_true.1 (List.all_eq_true.1 h1 a (List.mem_range.2 ha)) b (List.mem_range.2 hb)
  rw [he] at h2
  simp only [Bool.or_eq_true] at h2
  rcases h2 with (h2 | h2) | h2
  · exact .inl (Nat.eq_of_beq_eq_true h2)
  · exact .inr (Nat.eq_of_beq_eq_true h2)
  · cases h2
theorem isM_nat {P : Int} (h : isM P = true) : ∃ m : Nat, P = m ∧ 5 ≤ m ∧ m ≤ 31 ∧ isM (m : Int) = true := by
  have := isM_le h
  obtain ⟨m, rfl⟩ := Int.eq_ofNat_of_zero_le (show 0 ≤ P by omega)
  exact ⟨m, rfl, by omega, by omega, h⟩
theorem dom {P a b : Int} (h : isM P = true) (hd : P ∣ a * b) : P ∣ a ∨ P ∣ b := by
  obtain ⟨m, rfl, h5, h31, hm⟩ := isM_nat h
  have h1 := Int.emod_emod_of_dvd
  have ha := Int.emod_nonneg a (show (m : Int) ≠ 0 by omega)
  have hb := Int.emod_nonneg b (show (m : Int) ≠ 0 by omega)
  have ha2 := Int.emod_lt_of_pos a (show 0 < (m : Int) by omega)
  have hb2 := Int.emod_lt_of_pos b (show 0 < (m : Int) by omega)
  obtain ⟨x, hx⟩ := Int.eq_ofNat_of_zero_le ha
  obtain ⟨y, hy⟩ := Int.eq_ofNat_of_zero_le hb
  have hxy := dom_all m (by omega) hm x (by omega) y (by omega) (by
    have e := Int.emod_eq_zero_of_dvd hd
    rw [Int.mul_emod, hx, hy] at e
    have e2 : (((x * y % m : Nat)) : Int) = 0 := by push_cast; exact e
    omega)
  rcases hxy with rfl | rfl
  · exact .inl (Int.dvd_of_emod_eq_zero (by rw [hx]; rfl))
  · exact .inr (Int.dvd_of_emod_eq_zero (by rw [hy]; rfl))
theorem eq_of_dvd {P a b : Int} (ha : 0 ≤ a ∧ a < P) (hb : 0 ≤ b ∧ b < P) (h : P ∣ a - b) : a = b := by
  obtain ⟨k, hk⟩ := h
  have h1 : -1 < k := by
    refine Int.not_le.1 fun hl => ?_
    have := Int.mul_le_mul_of_nonneg_left hl (show 0 ≤ P by omega)
    omega
  have h2 : k < 1 := by
    refine Int.not_le.1 fun hl => ?_
    have := Int.mul_le_mul_of_nonneg_left hl (show 0 ≤ P by omega)
    omega
  obtain rfl : k = 0 := by omega
  omega
theorem dvd_mod {P a : Int} : P ∣ a % P - a := by
  refine ⟨-(a / P), ?_⟩
  have := Int.emod_add_mul_ediv a P
  rw [Int.mul_neg]
  omega
theorem mod_in {P : Int} (h : isM P = true) (a : Int) : 0 ≤ a % P ∧ a % P < P := by
  have := isM_le h
  exact ⟨Int.emod_nonneg _ (by omega), Int.emod_lt_of_pos _ (by omega)⟩
theorem qF_ok {P x y : Int} (h : isM P = true) (hy : ¬ P ∣ y) : (0 ≤ qF x y P ∧ qF x y P < P) ∧ P ∣ qF x y P * y - x := by
  refine ⟨mod_in h _, ?_⟩
  obtain ⟨m, rfl, h5, h31, hm⟩ := isM_nat h
  have hb := mod_in h y
  obtain ⟨r, hr⟩ := Int.eq_ofNat_of_zero_le hb.1
  have hr0 : 0 < r := by
    refine Nat.pos_of_ne_zero fun e => hy (Int.dvd_of_emod_eq_zero ?_)
    rw [hr, e]; rfl
  have hi := iv_all m (by omega) hm r (by omega) hr0
  unfold qF
  rw [Int.toNat_natCast, hr]
  show (m : Int) ∣ x * ((iv m r : Nat) : Int) % m * y - x
  have d1 : (m : Int) ∣ x * ((iv m r : Nat) : Int) % m - x * ((iv m r : Nat) : Int) := dvd_mod
  have d2 : (m : Int) ∣ y % m - y := dvd_mod
  rw [hr] at d2
  have d3 : (m : Int) ∣ ((iv m r * r : Nat) : Int) - 1 := by
    have : (((iv m r * r : Nat) : Int)) % m = 1 := by rw [← Int.natCast_emod, hi]; rfl
    refine ⟨((iv m r * r : Nat) : Int) / m, ?_⟩
    have e := Int.emod_add_mul_ediv ((iv m r * r : Nat) : Int) m
    omega
  push_cast at d3
  generalize x * ((iv m r : Nat) : Int) % m = z at d1 ⊢
  generalize ((iv m r : Nat) : Int) = i at d1 d3 ⊢
  have e : z * y - x = (z - x * i) * y + (x * (i * (r : Int) - 1) - x * i * ((r : Int) - y)) := by grind
  rw [e]
  exact Int.dvd_add (Int.dvd_mul_of_dvd_left d1) (Int.dvd_sub (Int.dvd_mul_of_dvd_right d3) (Int.dvd_mul_of_dvd_right d2))
theorem qF_uniq {P x y z : Int} (h : isM P = true) (hy : ¬ P ∣ y) (hz : 0 ≤ z ∧ z < P) (hd : P ∣ z * y - x) : z = qF x y P := by
  obtain ⟨h1, h2⟩ := qF_ok (x := x) h hy
  refine eq_of_dvd hz h1 ?_
  have : P ∣ (z - qF x y P) * y := by
    have e : (z - qF x y P) * y = (z * y - x) - (qF x y P * y - x) := by grind
    rw [e]; exact Int.dvd_sub hd h2
  exact (dom h this).resolve_right hy

/-- a point of the plane that lies on the curve -/
def OnC (P A B x y : Int) : Prop := (0 ≤ x ∧ x < P) ∧ (0 ≤ y ∧ y < P) ∧ P ∣ x * x * x + A * x + B - y * y
theorem onB_aff {P A B x y : Int} : onB P A B ⟨x, y, false⟩ = true ↔ OnC P A B x y := by
  show (isR x P && (isR y P && eqn P A B x y)) = true ↔ _
  simp only [Bool.and_eq_true, isR_iff, eqn, decide_eq_true_iff, OnC, Int.dvd_iff_emod_eq_zero]
theorem onB_far {P A B x y : Int} : onB P A B ⟨x, y, true⟩ = true ↔ x = 0 ∧ y = 0 := by
  show decide ((⟨x, y, true⟩ : Pt) = ⟨0, 0, true⟩) = true ↔ _
  simp
/-- two points of the curve with the same x -/
theorem same_x {P A B x y z : Int} (h : isM P = true) (h1 : OnC P A B x y) (h2 : OnC P A B x z) : y = z ∨ P ∣ y + z := by
  have : P ∣ (y - z) * (y + z) := by
    have e : (y - z) * (y + z) = (x * x * x + A * x + B - z * z) - (x * x * x + A * x + B - y * y) := by grind
    rw [e]; exact Int.dvd_sub h2.2.2 h1.2.2
  rcases dom h this with hd | hd
  · exact .inl (eq_of_dvd h1.2.1 h2.2.1 hd)
  · exact .inr hd
theorem neg_eq {P y z : Int} (h : isM P = true) (hy : 0 ≤ y ∧ y < P) (hz : 0 ≤ z ∧ z < P) : P ∣ y + z ↔ z = (-y) % P := by
  have d : P ∣ (-y) % P - -y := dvd_mod
  constructor
  · intro hd
    refine eq_of_dvd hz (mod_in h _) ?_
    have e : z - (-y) % P = (y + z) - ((-y) % P - -y) := by omega
    rw [e]; exact Int.dvd_sub hd d
  · rintro rfl
    have e : y + (-y) % P = ((-y) % P - -y) := by omega
    rw [e]; exact d
theorem two_dvd {P y : Int} (h : isM P = true) (hy : 0 ≤ y ∧ y < P) : P ∣ 2 * y ↔ y = 0 := by
  constructor
  · intro hd
    rcases dom h hd with h1 | h1
    · have := isM_le h
      have := Int.le_of_dvd (by decide) h1
      omega
    · refine eq_of_dvd hy (by omega) (by simpa using h1)
  · rintro rfl
    exact ⟨0, by simp⟩

theorem van {x1 x2 x3 p q r : Int} : (x3 * x3 * x3 + p * (x3 * x3) + q * x3 + r) * (x1 - x2) = -((x1 * x1 * x1 + p * (x1 * x1) + q * x1 + r) * (x2 - x3)) - (x2 * x2 * x2 + p * (x2 * x2) + q * x2 + r) * (x3 - x1) - (x1 - x2) * (x2 - x3) * (x3 - x1) * (x1 + x2 + x3 + p) := by grind
/-- the third point of a line: on the curve -/
theorem closure {P A B x1 y1 x2 y2 s x3 y3 : Int} (h : isM P = true) (hne : ¬ P ∣ x1 - x2) (h1 : P ∣ x1 * x1 * x1 + A * x1 + B - y1 * y1) (h2 : P ∣ x2 * x2 * x2 + A * x2 + B - y2 * y2)
    (hs : P ∣ s * (x1 - x2) - (y1 - y2)) (hx : P ∣ x3 - (s * s - x1 - x2)) (hy : P ∣ y3 - (s * (x1 - x3) - y1)) : P ∣ x3 * x3 * x3 + A * x3 + B - y3 * y3 := by
  -- the cubic of the line
  have G1 : P ∣ x1 * x1 * x1 + -(s * s) * (x1 * x1) + (A + 2 * s * s * x1 - 2 * s * y1) * x1 + (B - (y1 - s * x1) * (y1 - s * x1)) := by
    have e : x1 * x1 * x1 + -(s * s) * (x1 * x1) + (A + 2 * s * s * x1 - 2 * s * y1) * x1 + (B - (y1 - s * x1) * (y1 - s * x1)) = x1 * x1 * x1 + A * x1 + B - y1 * y1 := by grind
    rw [e]; exact h1
  have G2 : P ∣ x2 * x2 * x2 + -(s * s) * (x2 * x2) + (A + 2 * s * s * x1 - 2 * s * y1) * x2 + (B - (y1 - s * x1) * (y1 - s * x1)) := by
    have e : x2 * x2 * x2 + -(s * s) * (x2 * x2) + (A + 2 * s * s * x1 - 2 * s * y1) * x2 + (B - (y1 - s * x1) * (y1 - s * x1)) = (x2 * x2 * x2 + A * x2 + B - y2 * y2) + (s * (x1 - x2) - (y1 - y2)) * (y2 + y1 - s * (x1 - x2)) := by grind
    rw [e]; exact Int.dvd_add h2 (Int.dvd_mul_of_dvd_left hs)
  have G3 : P ∣ (x3 * x3 * x3 + -(s * s) * (x3 * x3) + (A + 2 * s * s * x1 - 2 * s * y1) * x3 + (B - (y1 - s * x1) * (y1 - s * x1))) * (x1 - x2) := by
    rw [van]
    refine Int.dvd_sub (Int.dvd_sub (Int.dvd_neg.2 (Int.dvd_mul_of_dvd_left G1)) (Int.dvd_mul_of_dvd_left G2)) (Int.dvd_mul_of_dvd_right ?_)
    have e : x1 + x2 + x3 + -(s * s) = x3 - (s * s - x1 - x2) := by grind
    rw [e]; exact hx
  have G4 := (dom h G3).resolve_right hne
  have e : x3 * x3 * x3 + A * x3 + B - y3 * y3 = (x3 * x3 * x3 + -(s * s) * (x3 * x3) + (A + 2 * s * s * x1 - 2 * s * y1) * x3 + (B - (y1 - s * x1) * (y1 - s * x1))) - (y3 - (s * (x1 - x3) - y1)) * (y3 + (s * (x1 - x3) - y1)) := by grind
  rw [e]; exact Int.dvd_sub G4 (Int.dvd_mul_of_dvd_left hy)
theorem closure2 {P A B x1 y1 s x3 y3 : Int} (h1 : P ∣ x1 * x1 * x1 + A * x1 + B - y1 * y1)
    (hs : P ∣ s * (2 * y1) - (3 * x1 * x1 + A)) (hx : P ∣ x3 - (s * s - x1 - x1)) (hy : P ∣ y3 - (s * (x1 - x3) - y1)) : P ∣ x3 * x3 * x3 + A * x3 + B - y3 * y3 := by
  have e : x3 * x3 * x3 + A * x3 + B - y3 * y3 = (x1 * x1 * x1 + A * x1 + B - y1 * y1) - (s * (2 * y1) - (3 * x1 * x1 + A)) * (x3 - x1) + (x3 - (s * s - x1 - x1)) * ((x3 - x1) * (x3 - x1)) - (y3 - (s * (x1 - x3) - y1)) * (y3 + (s * (x1 - x3) - y1)) := by grind
  rw [e]
  exact Int.dvd_sub (Int.dvd_add (Int.dvd_sub h1 (Int.dvd_mul_of_dvd_left hs)) (Int.dvd_mul_of_dvd_left hx)) (Int.dvd_mul_of_dvd_left hy)
/-- where the line touches -/
theorem tangent {P A B x1 y1 x2 y2 s : Int} (h : isM P = true) (hne : ¬ P ∣ x1 - x2) (h1 : P ∣ x1 * x1 * x1 + A * x1 + B - y1 * y1) (h2 : P ∣ x2 * x2 * x2 + A * x2 + B - y2 * y2)
    (hs : P ∣ s * (x1 - x2) - (y1 - y2)) (hx : P ∣ x2 - (s * s - x1 - x2)) : P ∣ s * (2 * y2) - (3 * x2 * x2 + A) := by
  have : P ∣ (x1 - x2) * (s * (2 * y2) - (3 * x2 * x2 + A)) := by
    have e : (x1 - x2) * (s * (2 * y2) - (3 * x2 * x2 + A)) = (x2 * x2 * x2 + A * x2 + B - y2 * y2) - (x1 * x1 * x1 + A * x1 + B - y1 * y1) + (x2 - (s * s - x1 - x2)) * ((x1 - x2) * (x1 - x2)) + (s * (x1 - x2) - (y1 - y2)) * (s * (x1 - x2) + (y1 - y2) + 2 * y2) := by grind
    rw [e]
    exact Int.dvd_add (Int.dvd_add (Int.dvd_sub h2 h1) (Int.dvd_mul_of_dvd_left hx)) (Int.dvd_mul_of_dvd_left hs)
  exact (dom h this).resolve_left hne
theorem singular {P A B x : Int} (h1 : P ∣ x * x * x + A * x + B) (h2 : P ∣ 3 * x * x + A) : P ∣ 4 * A * A * A + 27 * B * B := by
  have e : 4 * A * A * A + 27 * B * B = (3 * x * x + A) * (4 * (A * A - 3 * x * x * A + 9 * x * x * x * x) - 27 * x * (B + 2 * x * x * x)) + (x * x * x + A * x + B) * (27 * (B + 2 * x * x * x)) := by grind
  rw [e]
  exact Int.dvd_add (Int.dvd_mul_of_dvd_left h2) (Int.dvd_mul_of_dvd_left h1)
end Go.Proofs.YtoepghlkjbpkfaaDoor
