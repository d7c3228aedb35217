/- Curves that belong together: the points of the one become those of the other, sums become sums. Condition: the number that turns them is no multiple of P. -/
import Derived.Test.YtoepghlkjbpkfaaDoorOrd
namespace Go.Proofs.YtoepghlkjbpkfaaDoor

/-- a point of the curve becomes one of the other curve -/
def sc (P v : Int) (q : Pt) : Pt := if q.f = true then farP else ⟨q.x * v * v % P, q.y * v * v * v % P, false⟩
/-- A, B times the fourth and the sixth power -/
structure Rel (P A B A' B' v : Int) : Prop where
  hp : isM P = true
  hv : ¬ P ∣ v
  a : P ∣ A' - A * v * v * v * v
  b : P ∣ B' - B * v * v * v * v * v * v
theorem not_dvd_mul {P a v : Int} (h : isM P = true) (hv : ¬ P ∣ v) (hd : P ∣ a * v) : P ∣ a := (dom h hd).resolve_right hv
theorem Rel.on {P A B A' B' v x y : Int} (h : Rel P A B A' B' v) (ho : OnC P A B x y) : OnC P A' B' (x * v * v % P) (y * v * v * v % P) := by
  refine ⟨mod_in h.hp _, mod_in h.hp _, ?_⟩
  have d1 : P ∣ x * v * v % P - x * v * v := dvd_mod
  have d2 : P ∣ y * v * v * v % P - y * v * v * v := dvd_mod
  obtain ⟨X, hX⟩ : ∃ X, x * v * v % P = X := ⟨_, rfl⟩
  obtain ⟨Y, hY⟩ : ∃ Y, y * v * v * v % P = Y := ⟨_, rfl⟩
  rw [hX] at d1 ⊢
  rw [hY] at d2 ⊢
  have e : X * X * X + A' * X + B' - Y * Y = (x * x * x + A * x + B - y * y) * (v * v * v * v * v * v) + (X - x * v * v) * (X * X + X * (x * v * v) + x * v * v * (x * v * v) + A') + (A' - A * v * v * v * v) * (x * v * v) + (B' - B * v * v * v * v * v * v) - (Y - y * v * v * v) * (Y + y * v * v * v) := by grind
  rw [e]
  exact Int.dvd_sub (Int.dvd_add (Int.dvd_add (Int.dvd_add (Int.dvd_mul_of_dvd_left ho.2.2) (Int.dvd_mul_of_dvd_left d1)) (Int.dvd_mul_of_dvd_left h.a)) h.b) (Int.dvd_mul_of_dvd_left d2)
theorem Rel.onB {P A B A' B' v : Int} (h : Rel P A B A' B' v) {q : Pt} (ho : onB P A B q = true) : onB P A' B' (sc P v q) = true := by
  rcases on_cases ho with rfl | ⟨f, hc⟩
  · exact on_far _ _ _
  · unfold sc
    rw [if_neg (by rw [f]; decide)]
    exact onB_aff.2 (h.on hc)
theorem Rel.line {P A B A' B' v x1 y1 x2 y2 s : Int} (h : Rel P A B A' B' v) (hl : Line P A x1 y1 x2 y2 s) :
    Line P A' (x1 * v * v % P) (y1 * v * v * v % P) (x2 * v * v % P) (y2 * v * v * v % P) (s * v % P) := by
  have d1 : P ∣ x1 * v * v % P - x1 * v * v := dvd_mod
  have d2 : P ∣ y1 * v * v * v % P - y1 * v * v * v := dvd_mod
  have d3 : P ∣ x2 * v * v % P - x2 * v * v := dvd_mod
  have d4 : P ∣ y2 * v * v * v % P - y2 * v * v * v := dvd_mod
  have d5 : P ∣ s * v % P - s * v := dvd_mod
  rcases hl with ⟨k1, k2⟩ | ⟨k1, k2, k3, k4⟩
  · left
    obtain ⟨X1, hX1⟩ : ∃ X, x1 * v * v % P = X := ⟨_, rfl⟩
    obtain ⟨Y1, hY1⟩ : ∃ X, y1 * v * v * v % P = X := ⟨_, rfl⟩
    obtain ⟨X2, hX2⟩ : ∃ X, x2 * v * v % P = X := ⟨_, rfl⟩
    obtain ⟨Y2, hY2⟩ : ∃ X, y2 * v * v * v % P = X := ⟨_, rfl⟩
    obtain ⟨T, hT⟩ : ∃ X, s * v % P = X := ⟨_, rfl⟩
    rw [hX1] at d1 ⊢
    rw [hY1] at d2 ⊢
    rw [hX2] at d3 ⊢
    rw [hY2] at d4 ⊢
    rw [hT] at d5 ⊢
    constructor
    · intro hd
      refine k1 (not_dvd_mul h.hp h.hv (not_dvd_mul h.hp h.hv ?_))
      have e : (x1 - x2) * v * v = (X1 - X2) - (X1 - x1 * v * v) + (X2 - x2 * v * v) := by grind
      rw [e]
      exact Int.dvd_add (Int.dvd_sub hd d1) d3
    · have e : T * (X1 - X2) - (Y1 - Y2) = (s * (x1 - x2) - (y1 - y2)) * (v * v * v) + (T - s * v) * (X1 - X2) + (X1 - x1 * v * v) * (s * v) - (X2 - x2 * v * v) * (s * v) - (Y1 - y1 * v * v * v) + (Y2 - y2 * v * v * v) := by grind
      rw [e]
      exact Int.dvd_add (Int.dvd_sub (Int.dvd_sub (Int.dvd_add (Int.dvd_add (Int.dvd_mul_of_dvd_left k2) (Int.dvd_mul_of_dvd_left d5)) (Int.dvd_mul_of_dvd_left d1)) (Int.dvd_mul_of_dvd_left d3)) d2) d4
  · right
    refine ⟨by rw [k1], by rw [k2], ?_, ?_⟩
    · intro hd
      refine k3 (not_dvd_mul h.hp h.hv (not_dvd_mul h.hp h.hv (not_dvd_mul h.hp h.hv ?_)))
      have e : 2 * y1 * v * v * v = 2 * (y1 * v * v * v % P) - (y1 * v * v * v % P - y1 * v * v * v) * 2 := by grind
      rw [e]
      exact Int.dvd_sub hd (Int.dvd_mul_of_dvd_left d2)
    · obtain ⟨X1, hX1⟩ : ∃ X, x1 * v * v % P = X := ⟨_, rfl⟩
      obtain ⟨Y1, hY1⟩ : ∃ X, y1 * v * v * v % P = X := ⟨_, rfl⟩
      obtain ⟨T, hT⟩ : ∃ X, s * v % P = X := ⟨_, rfl⟩
      rw [hX1] at d1 ⊢
      rw [hY1] at d2 ⊢
      rw [hT] at d5 ⊢
      have e : T * (2 * Y1) - (3 * X1 * X1 + A') = (s * (2 * y1) - (3 * x1 * x1 + A)) * (v * v * v * v) + (T - s * v) * (2 * Y1) + (Y1 - y1 * v * v * v) * (2 * (s * v)) - (X1 - x1 * v * v) * (3 * (X1 + x1 * v * v)) - (A' - A * v * v * v * v) := by grind
      rw [e]
      exact Int.dvd_sub (Int.dvd_sub (Int.dvd_add (Int.dvd_add (Int.dvd_mul_of_dvd_left k4) (Int.dvd_mul_of_dvd_left d5)) (Int.dvd_mul_of_dvd_left d2)) (Int.dvd_mul_of_dvd_left d1)) h.a
theorem third_sc {P v : Int} (h : isM P = true) (x1 y1 x2 y2 s : Int) (f g : Bool) :
    thirdX P ⟨x1 * v * v % P, y1 * v * v * v % P, f⟩ ⟨x2 * v * v % P, y2 * v * v * v % P, g⟩ (s * v % P) = thirdX P ⟨x1, y1, f⟩ ⟨x2, y2, g⟩ s * v * v % P := by
  refine eq_of_dvd (mod_in h _) (mod_in h _) ?_
  have d1 : P ∣ x1 * v * v % P - x1 * v * v := dvd_mod
  have d3 : P ∣ x2 * v * v % P - x2 * v * v := dvd_mod
  have d5 : P ∣ s * v % P - s * v := dvd_mod
  unfold thirdX
  simp only
  obtain ⟨X1, hX1⟩ : ∃ X, x1 * v * v % P = X := ⟨_, rfl⟩
  obtain ⟨X2, hX2⟩ : ∃ X, x2 * v * v % P = X := ⟨_, rfl⟩
  obtain ⟨T, hT⟩ : ∃ X, s * v % P = X := ⟨_, rfl⟩
  rw [hX1] at d1 ⊢
  rw [hX2] at d3 ⊢
  rw [hT] at d5 ⊢
  have d6 : P ∣ (T * T - X1 - X2) % P - (T * T - X1 - X2) := dvd_mod
  have d7 : P ∣ (s * s - x1 - x2) % P - (s * s - x1 - x2) := dvd_mod
  have d8 : P ∣ (s * s - x1 - x2) % P * v * v % P - (s * s - x1 - x2) % P * v * v := dvd_mod
  obtain ⟨U, hU⟩ : ∃ X, (T * T - X1 - X2) % P = X := ⟨_, rfl⟩
  obtain ⟨V, hV⟩ : ∃ X, (s * s - x1 - x2) % P = X := ⟨_, rfl⟩
  rw [hV] at d8 d7 ⊢
  obtain ⟨Z, hZ⟩ : ∃ X, V * v * v % P = X := ⟨_, rfl⟩
  rw [hU] at d6 ⊢
  rw [hZ] at d8 ⊢
  have e : U - Z = (U - (T * T - X1 - X2)) + (T - s * v) * (T + s * v) - (X1 - x1 * v * v) - (X2 - x2 * v * v) - (V - (s * s - x1 - x2)) * (v * v) - (Z - V * v * v) := by grind
  rw [e]
  exact Int.dvd_sub (Int.dvd_sub (Int.dvd_sub (Int.dvd_sub (Int.dvd_add d6 (Int.dvd_mul_of_dvd_left d5)) d1) d3) (Int.dvd_mul_of_dvd_left d7)) d8
theorem thirdY_sc {P v : Int} (h : isM P = true) (x1 y1 x2 y2 s : Int) (f g : Bool) :
    thirdY P ⟨x1 * v * v % P, y1 * v * v * v % P, f⟩ ⟨x2 * v * v % P, y2 * v * v * v % P, g⟩ (s * v % P) = thirdY P ⟨x1, y1, f⟩ ⟨x2, y2, g⟩ s * v * v * v % P := by
  refine eq_of_dvd (mod_in h _) (mod_in h _) ?_
  unfold thirdY
  rw [third_sc h]
  obtain ⟨W, hW⟩ : ∃ X, thirdX P ⟨x1, y1, f⟩ ⟨x2, y2, g⟩ s = X := ⟨_, rfl⟩
  rw [hW]
  simp only
  have d1 : P ∣ x1 * v * v % P - x1 * v * v := dvd_mod
  have d2 : P ∣ y1 * v * v * v % P - y1 * v * v * v := dvd_mod
  have d3 : P ∣ W * v * v % P - W * v * v := dvd_mod
  have d5 : P ∣ s * v % P - s * v := dvd_mod
  obtain ⟨X1, hX1⟩ : ∃ X, x1 * v * v % P = X := ⟨_, rfl⟩
  obtain ⟨Y1, hY1⟩ : ∃ X, y1 * v * v * v % P = X := ⟨_, rfl⟩
  obtain ⟨W1, hW1⟩ : ∃ X, W * v * v % P = X := ⟨_, rfl⟩
  obtain ⟨T, hT⟩ : ∃ X, s * v % P = X := ⟨_, rfl⟩
  rw [hX1] at d1 ⊢
  rw [hY1] at d2 ⊢
  rw [hW1] at d3 ⊢
  rw [hT] at d5 ⊢
  have d6 : P ∣ (T * (X1 - W1) - Y1) % P - (T * (X1 - W1) - Y1) := dvd_mod
  have d7 : P ∣ (s * (x1 - W) - y1) % P - (s * (x1 - W) - y1) := dvd_mod
  obtain ⟨U, hU⟩ : ∃ X, (T * (X1 - W1) - Y1) % P = X := ⟨_, rfl⟩
  obtain ⟨V, hV⟩ : ∃ X, (s * (x1 - W) - y1) % P = X := ⟨_, rfl⟩
  rw [hU] at d6 ⊢
  rw [hV] at d7 ⊢
  have d8 : P ∣ V * v * v * v % P - V * v * v * v := dvd_mod
  obtain ⟨Z, hZ⟩ : ∃ X, V * v * v * v % P = X := ⟨_, rfl⟩
  rw [hZ] at d8 ⊢
  have e : U - Z = (U - (T * (X1 - W1) - Y1)) + (T - s * v) * (X1 - W1) + (X1 - x1 * v * v) * (s * v) - (W1 - W * v * v) * (s * v) - (Y1 - y1 * v * v * v) - (V - (s * (x1 - W) - y1)) * (v * v * v) - (Z - V * v * v * v) := by grind
  rw [e]
  exact Int.dvd_sub (Int.dvd_sub (Int.dvd_sub (Int.dvd_sub (Int.dvd_add (Int.dvd_add d6 (Int.dvd_mul_of_dvd_left d5)) (Int.dvd_mul_of_dvd_left d1)) (Int.dvd_mul_of_dvd_left d3)) d2) (Int.dvd_mul_of_dvd_left d7)) d8
theorem mod_inj {P a b v : Int} (h : isM P = true) (hv : ¬ P ∣ v) (ha : 0 ≤ a ∧ a < P) (hb : 0 ≤ b ∧ b < P) (e : ∃ k, P ∣ k - a * v ∧ P ∣ k - b * v) : a = b := by
  obtain ⟨k, k1, k2⟩ := e
  refine eq_of_dvd ha hb (not_dvd_mul h hv ?_)
  have e : (a - b) * v = (k - b * v) - (k - a * v) := by grind
  rw [e]
  exact Int.dvd_sub k2 k1
theorem Rel.inj {P A B A' B' v : Int} (h : Rel P A B A' B' v) {q r : Pt} (hq : _root_.Go.Proofs.YtoepghlkjbpkfaaDoor.onB P A B q = true) (hr : _root_.Go.Proofs.YtoepghlkjbpkfaaDoor.onB P A B r = true) (e : sc P v q = sc P v r) : q = r := by
  have hv2 : ¬ P ∣ v * v := fun hd => h.hv (not_dvd_mul h.hp h.hv hd)
  have hv3 : ¬ P ∣ v * v * v := fun hd => hv2 (not_dvd_mul h.hp h.hv hd)
  rcases on_cases hq with rfl | ⟨f, hc⟩ <;> rcases on_cases hr with rfl | ⟨g, hd⟩
  · rfl
  · exfalso; unfold sc at e; rw [if_pos rfl, if_neg (by rw [g]; decide)] at e; exact absurd (congrArg Pt.f e) (by simp)
  · exfalso; unfold sc at e; rw [if_pos (show farP.f = true from rfl), if_neg (by rw [f]; decide)] at e; exact absurd (congrArg Pt.f e) (by simp)
  · unfold sc at e
    rw [if_neg (by rw [f]; decide), if_neg (by rw [g]; decide)] at e
    simp only [Pt.mk.injEq, and_true] at e
    obtain ⟨x1, y1, f1⟩ := q
    obtain ⟨x2, y2, f2⟩ := r
    simp only at f g e hc hd
    subst f g
    have e1 : x1 = x2 := mod_inj h.hp hv2 hc.1 hd.1 ⟨x1 * v * v % P, by rw [← Int.mul_assoc]; exact dvd_mod, by rw [e.1, ← Int.mul_assoc]; exact dvd_mod⟩
    have e2 : y1 = y2 := mod_inj h.hp hv3 hc.2.1 hd.2.1 ⟨y1 * v * v * v % P, by rw [show y1 * (v * v * v) = y1 * v * v * v by grind]; exact dvd_mod, by rw [e.2, show y2 * (v * v * v) = y2 * v * v * v by grind]; exact dvd_mod⟩
    rw [e1, e2]
theorem turn_sc {P v : Int} (h : isM P = true) {q : Pt} (f : q.f = false) : sc P v (turnP P q) = turnP P (sc P v q) := by
  unfold sc
  rw [if_neg (by simp [turnP]), if_neg (by rw [f]; decide)]
  unfold turnP
  simp only [Pt.mk.injEq, and_true, true_and]
  refine eq_of_dvd (mod_in h _) (mod_in h _) ?_
  have d1 : P ∣ (-q.y) % P - -q.y := dvd_mod
  have d2 : P ∣ (-q.y) % P * v * v * v % P - (-q.y) % P * v * v * v := dvd_mod
  have d3 : P ∣ q.y * v * v * v % P - q.y * v * v * v := dvd_mod
  have d4 : P ∣ (-(q.y * v * v * v % P)) % P - -(q.y * v * v * v % P) := dvd_mod
  have e : (-q.y) % P * v * v * v % P - (-(q.y * v * v * v % P)) % P = ((-q.y) % P * v * v * v % P - (-q.y) % P * v * v * v) + ((-q.y) % P - -q.y) * (v * v * v) - ((-(q.y * v * v * v % P)) % P - -(q.y * v * v * v % P)) + (q.y * v * v * v % P - q.y * v * v * v) := by grind
  rw [e]
  exact Int.dvd_add (Int.dvd_sub (Int.dvd_add d2 (Int.dvd_mul_of_dvd_left d1)) d4) d3
/-- sums become sums -/
theorem Rel.sum {P A B A' B' v : Int} (h : Rel P A B A' B' v) {q r : Pt} (hq : _root_.Go.Proofs.YtoepghlkjbpkfaaDoor.onB P A B q = true) (hr : _root_.Go.Proofs.YtoepghlkjbpkfaaDoor.onB P A B r = true) :
    sumP P A' (sc P v q) (sc P v r) = sc P v (sumP P A q r) := by
  have hfar : sc P v farP = farP := by unfold sc; rw [if_pos rfl]
  have hnf : ∀ {q : Pt}, q.f = false → sc P v q ≠ farP := fun {q} f e => by
    unfold sc at e; rw [if_neg (by rw [f]; decide)] at e; exact absurd (congrArg Pt.f e) (by simp)
  rcases on_cases hq with rfl | ⟨f, hc⟩
  · rw [hfar]; unfold sumP; rw [if_pos rfl, if_pos rfl]
  · rcases on_cases hr with rfl | ⟨g, hd⟩
    · rw [hfar]
      unfold sumP
      rw [if_neg (hnf f), if_pos rfl, if_neg (fun e => by rw [e] at f; cases f), if_pos rfl]
    · by_cases hn : r = turnP P q
      · subst hn
        rw [turn_sc h.hp f]
        unfold sumP
        rw [if_neg (hnf f), if_neg (by rw [← turn_sc h.hp f]; exact hnf g), if_pos rfl, if_neg (fun e => by rw [e] at f; cases f), if_neg (fun e => by rw [e] at g; cases g), if_pos rfl, hfar]
      · obtain ⟨hs, hl⟩ := slope_line h.hp hc hd f g hn
        rw [sum_line h.hp hc f g hs hl hd.2.1]
        have hl2 := h.line hl
        have hc2 := h.on hc
        have hd2 := h.on hd
        obtain ⟨x1, y1, f1⟩ := q
        obtain ⟨x2, y2, f2⟩ := r
        simp only at f g hc hd hl hl2 hc2 hd2 hs ⊢
        subst f g
        have e1 : ∀ x y : Int, sc P v ⟨x, y, false⟩ = ⟨x * v * v % P, y * v * v * v % P, false⟩ := fun x y => by unfold sc; rw [if_neg (by simp)]
        rw [e1, e1, e1, sum_line (B := B') h.hp (by exact hc2) rfl rfl (mod_in h.hp _) (by exact hl2) (by exact hd2.2.1), third_sc h.hp, thirdY_sc h.hp]
theorem Rel.mul {P A B A' B' v : Int} (h : Rel P A B A' B' v) {q : Pt} (hq : _root_.Go.Proofs.YtoepghlkjbpkfaaDoor.onB P A B q = true) : ∀ k, mulP P A' (sc P v q) k = sc P v (mulP P A q k)
  | 0 => by unfold sc; rw [if_pos (show (mulP P A q 0).f = true from rfl)]; rfl
  | k + 1 => by
    show sumP P A' (mulP P A' (sc P v q) k) (sc P v q) = sc P v (sumP P A (mulP P A q k) q)
    rw [h.mul hq k, h.sum (mul_on h.hp hq k) hq]
/-- orders are the same -/
theorem Rel.ord {P A B A' B' v : Int} (h : Rel P A B A' B' v) {q : Pt} {n : Nat} (hq : _root_.Go.Proofs.YtoepghlkjbpkfaaDoor.onB P A B q = true) (ho : IsOrd P A q n) : IsOrd P A' (sc P v q) n := by
  have hfar : sc P v farP = farP := by unfold sc; rw [if_pos rfl]
  refine ⟨ho.1, by rw [h.mul hq, ho.2.1, hfar], fun k k1 k2 e => ho.2.2 k k1 k2 ?_⟩
  rw [h.mul hq, ← hfar] at e
  exact h.inj (mul_on h.hp hq k) (on_far _ _ _) e
end Go.Proofs.YtoepghlkjbpkfaaDoor
