/- The sum of points as the program works it out: closed, undone by the opposite point, of finite order. Condition: the curve is valid. -/
import Derived.Test.YtoepghlkjbpkfaaDoorEC
namespace Go.Proofs.YtoepghlkjbpkfaaDoor

abbrev farP : Pt := ⟨0, 0, true⟩
def turnP (P : Int) (q : Pt) : Pt := ⟨q.x, (-q.y) % P, false⟩
def slopeP (P A : Int) (q r : Pt) : Int := if q = r then qF (3 * q.x * q.x + A) (2 * q.y) P else qF (q.y - r.y) (q.x - r.x) P
def thirdX (P : Int) (q r : Pt) (s : Int) : Int := (s * s - q.x - r.x) % P
def thirdY (P : Int) (q r : Pt) (s : Int) : Int := (s * (q.x - thirdX P q r s) - q.y) % P
def sumP (P A : Int) (q r : Pt) : Pt :=
  if q = farP then r else if r = farP then q else if r = turnP P q then farP else ⟨thirdX P q r (slopeP P A q r), thirdY P q r (slopeP P A q r), false⟩
def negP (P : Int) (q : Pt) : Pt := if q = farP then farP else turnP P q

theorem on_cases {P A B : Int} {q : Pt} (h : onB P A B q = true) : q = farP ∨ (q.f = false ∧ OnC P A B q.x q.y) := by
  obtain ⟨x, y, f⟩ := q
  cases f
  · exact .inr ⟨rfl, onB_aff.1 h⟩
  · obtain ⟨rfl, rfl⟩ := onB_far.1 h
    exact .inl rfl
theorem on_far (P A B : Int) : onB P A B farP = true := onB_far.2 ⟨rfl, rfl⟩
/-- the line through two points, or the tangent of one -/
def Line (P A : Int) (x1 y1 x2 y2 s : Int) : Prop := (¬ P ∣ x1 - x2 ∧ P ∣ s * (x1 - x2) - (y1 - y2)) ∨ (x1 = x2 ∧ y1 = y2 ∧ ¬ P ∣ 2 * y1 ∧ P ∣ s * (2 * y1) - (3 * x1 * x1 + A))
theorem slope_line {P A B : Int} {q r : Pt} (h : isM P = true) (hq : OnC P A B q.x q.y) (hr : OnC P A B r.x r.y) (fq : q.f = false) (fr : r.f = false) (hn : r ≠ turnP P q) :
    (0 ≤ slopeP P A q r ∧ slopeP P A q r < P) ∧ Line P A q.x q.y r.x r.y (slopeP P A q r) := by
  obtain ⟨x1, y1, f1⟩ := q
  obtain ⟨x2, y2, f2⟩ := r
  simp only at *
  subst fq fr
  unfold slopeP
  by_cases he : (⟨x1, y1, false⟩ : Pt) = ⟨x2, y2, false⟩
  · rw [if_pos he]
    simp only [Pt.mk.injEq, and_true] at he
    obtain ⟨rfl, rfl⟩ := he
    have hy : ¬ P ∣ 2 * y1 := by
      intro hd
      have h0 := (two_dvd h hq.2.1).1 hd
      refine hn ?_
      unfold turnP
      simp [h0]
    obtain ⟨h1, h2⟩ := qF_ok (x := 3 * x1 * x1 + A) h hy
    exact ⟨h1, .inr ⟨rfl, rfl, hy, h2⟩⟩
  · rw [if_neg he]
    have hx : ¬ P ∣ x1 - x2 := by
      intro hd
      have e := eq_of_dvd hq.1 hr.1 hd
      subst e
      rcases same_x h hq hr with e | e
      · subst e; exact he rfl
      · refine hn ?_
        unfold turnP
        simp only [Pt.mk.injEq, and_true, true_and]
        exact (neg_eq h hq.2.1 hr.2.1).1 e
    obtain ⟨h1, h2⟩ := qF_ok (x := y1 - y2) h hx
    exact ⟨h1, .inl ⟨hx, h2⟩⟩
theorem sum_line {P A B : Int} {q r : Pt} (h : isM P = true) (hq : OnC P A B q.x q.y) (fq : q.f = false) (fr : r.f = false) {s : Int} (hs : 0 ≤ s ∧ s < P) (hl : Line P A q.x q.y r.x r.y s) (hr2 : 0 ≤ r.y ∧ r.y < P) :
    sumP P A q r = ⟨thirdX P q r s, thirdY P q r s, false⟩ := by
  obtain ⟨x1, y1, f1⟩ := q
  obtain ⟨x2, y2, f2⟩ := r
  simp only at *
  subst fq fr
  have n1 : ¬ (⟨x1, y1, false⟩ : Pt) = farP := fun e => by simp [farP] at e
  have n2 : ¬ (⟨x2, y2, false⟩ : Pt) = farP := fun e => by simp [farP] at e
  have n3 : ¬ (⟨x2, y2, false⟩ : Pt) = turnP P ⟨x1, y1, false⟩ := by
    intro e
    simp only [turnP, Pt.mk.injEq, and_true] at e
    obtain ⟨e1, e2⟩ := e
    rcases hl with ⟨k1, -⟩ | ⟨k1, k2, k3, -⟩
    · subst e1; exact k1 ⟨0, by omega⟩
    · refine k3 ?_
      have := (neg_eq h hq.2.1 hr2).2 e2
      have e3 : 2 * y1 = y1 + y2 := by omega
      rwa [e3]
  have es : slopeP P A ⟨x1, y1, false⟩ ⟨x2, y2, false⟩ = s := by
    unfold slopeP
    rcases hl with ⟨k1, k2⟩ | ⟨k1, k2, k3, k4⟩
    · rw [if_neg (fun e => by simp only [Pt.mk.injEq, and_true] at e; exact k1 ⟨0, by omega⟩)]
      exact (qF_uniq h k1 hs k2).symm
    · subst k1 k2
      rw [if_pos rfl]
      exact (qF_uniq h k3 hs k4).symm
  unfold sumP
  rw [if_neg n1, if_neg n2, if_neg n3, es]
theorem third_on {P A B : Int} {q r : Pt} (h : isM P = true) (hq : OnC P A B q.x q.y) (hr : OnC P A B r.x r.y) {s : Int} (hl : Line P A q.x q.y r.x r.y s) : OnC P A B (thirdX P q r s) (thirdY P q r s) := by
  refine ⟨mod_in h _, mod_in h _, ?_⟩
  have d1 : P ∣ thirdX P q r s - (s * s - q.x - r.x) := dvd_mod
  have d2 : P ∣ thirdY P q r s - (s * (q.x - thirdX P q r s) - q.y) := dvd_mod
  rcases hl with ⟨k1, k2⟩ | ⟨k1, k2, k3, k4⟩
  · exact closure h k1 hq.2.2 hr.2.2 k2 d1 d2
  · rw [← k1] at d1
    exact closure2 hq.2.2 k4 d1 d2
/-- sums of points are points -/
theorem closed {P A B : Int} {q r : Pt} (h : isM P = true) (hq : onB P A B q = true) (hr : onB P A B r = true) : onB P A B (sumP P A q r) = true := by
  rcases on_cases hq with rfl | ⟨fq, cq⟩
  · unfold sumP; rw [if_pos rfl]; exact hr
  · rcases on_cases hr with rfl | ⟨fr, cr⟩
    · unfold sumP
      rw [if_neg (fun e => by rw [e] at fq; cases fq), if_pos rfl]; exact hq
    · by_cases hn : r = turnP P q
      · unfold sumP
        rw [if_neg (fun e => by rw [e] at fq; cases fq), if_neg (fun e => by rw [e] at fr; cases fr), if_pos hn]
        exact on_far P A B
      · obtain ⟨hs, hl⟩ := slope_line h cq cr fq fr hn
        rw [sum_line h cq fq fr hs hl cr.2.1]
        exact onB_aff.2 (third_on h cq cr hl)
theorem turn_on {P A B : Int} {q : Pt} (h : isM P = true) (hq : OnC P A B q.x q.y) : OnC P A B (turnP P q).x (turnP P q).y := by
  refine ⟨hq.1, mod_in h _, ?_⟩
  have d : P ∣ (-q.y) % P - -q.y := dvd_mod
  have e : q.x * q.x * q.x + A * q.x + B - (-q.y) % P * ((-q.y) % P) = (q.x * q.x * q.x + A * q.x + B - q.y * q.y) - ((-q.y) % P - -q.y) * ((-q.y) % P - q.y) := by grind
  show P ∣ q.x * q.x * q.x + A * q.x + B - (-q.y) % P * ((-q.y) % P)
  rw [e]
  exact Int.dvd_sub hq.2.2 (Int.dvd_mul_of_dvd_left d)
theorem neg_on {P A B : Int} {q : Pt} (h : isM P = true) (hq : onB P A B q = true) : onB P A B (negP P q) = true := by
  unfold negP
  rcases on_cases hq with rfl | ⟨fq, cq⟩
  · rw [if_pos rfl]; exact on_far P A B
  · rw [if_neg (fun e => by rw [e] at fq; cases fq)]
    exact onB_aff.2 (turn_on h cq)
/-- a sum is undone by the opposite point -/
theorem cancel {P A B : Int} {q r : Pt} (h : isM P = true) (hd : disc P A B = false) (hq : onB P A B q = true) (hr : onB P A B r = true) : sumP P A (sumP P A q r) (negP P r) = q := by
  have hsing : ∀ x : Int, P ∣ x * x * x + A * x + B → P ∣ 3 * x * x + A → False := fun x k1 k2 => by
    have := singular k1 k2
    exact of_decide_eq_false hd (Int.emod_eq_zero_of_dvd this)
  rcases on_cases hr with rfl | ⟨fr, cr⟩
  · have e1 : sumP P A q farP = q := by
      unfold sumP
      by_cases hf : q = farP
      · rw [if_pos hf, hf]
      · rw [if_neg hf, if_pos rfl]
    have e2 : negP P farP = farP := by unfold negP; rw [if_pos rfl]
    rw [e1, e2, e1]
  · have nr : ¬ r = farP := fun e => by rw [e] at fr; cases fr
    have e2 : negP P r = turnP P r := by unfold negP; rw [if_neg nr]
    rw [e2]
    have ct := turn_on h cr
    have ntr : ¬ turnP P r = farP := fun e => by simp [turnP, farP] at e
    rcases on_cases hq with rfl | ⟨fq, cq⟩
    · have e1 : sumP P A farP r = r := by unfold sumP; rw [if_pos rfl]
      rw [e1]
      unfold sumP
      rw [if_neg nr, if_neg ntr, if_pos rfl]
    · have nq : ¬ q = farP := fun e => by rw [e] at fq; cases fq
      by_cases hn : r = turnP P q
      · have e1 : sumP P A q r = farP := by
          unfold sumP
          rw [if_neg nq, if_neg nr, if_pos hn]
        rw [e1]
        unfold sumP
        rw [if_pos rfl, hn]
        obtain ⟨x1, y1, f1⟩ := q
        simp only at *
        subst fq
        simp only [turnP, Pt.mk.injEq, and_true, true_and]
        refine ((neg_eq h (mod_in h _) cq.2.1).1 ?_).symm
        have d : P ∣ (-y1) % P - -y1 := dvd_mod
        have e : (-y1) % P + y1 = (-y1) % P - -y1 := by omega
        rwa [e]
      · obtain ⟨hs, hl⟩ := slope_line h cq cr fq fr hn
        generalize hsl : slopeP P A q r = s at hs hl
        rw [sum_line h cq fq fr hs hl cr.2.1]
        have co := third_on h cq cr hl
        have d1 : P ∣ thirdX P q r s - (s * s - q.x - r.x) := dvd_mod
        have d2 : P ∣ thirdY P q r s - (s * (q.x - thirdX P q r s) - q.y) := dvd_mod
        generalize thirdX P q r s = x3 at co d1 d2
        generalize thirdY P q r s = y3 at co d2
        obtain ⟨x1, y1, f1⟩ := q
        obtain ⟨x2, y2, f2⟩ := r
        simp only at *
        subst fq fr
        have d3 : P ∣ (-y2) % P - -y2 := dvd_mod
        have d4 : P ∣ (-s) % P - -s := dvd_mod
        have hty : (turnP P ⟨x2, y2, false⟩).y = (-y2) % P := rfl
        have htx : (turnP P ⟨x2, y2, false⟩).x = x2 := rfl
        rw [htx, hty] at ct
        have htang : x3 = x2 → P ∣ s * (2 * y2) - (3 * x2 * x2 + A) := by
          rintro rfl
          rcases hl with ⟨k1, k2⟩ | ⟨k1, k2, k3, k4⟩
          · exact tangent h k1 cq.2.2 cr.2.2 k2 d1
          · rw [← k1, ← k2]; exact k4
        have hsum : P ∣ s * (x1 - x2) - (y1 - y2) := by
          rcases hl with ⟨k1, k2⟩ | ⟨k1, k2, k3, k4⟩
          · exact k2
          · rw [k1, k2]; exact ⟨0, by simp⟩
        have hl2 : Line P A x3 y3 x2 ((-y2) % P) ((-s) % P) := by
          generalize (-y2) % P = z at d3 ct ⊢
          generalize (-s) % P = u at d4 ⊢
          by_cases hx : P ∣ x3 - x2
          · obtain rfl := eq_of_dvd co.1 cr.1 hx
            have ht := htang rfl
            have hyy : P ∣ y3 + y2 := by
              have e : y3 + y2 = (y3 - (s * (x1 - x3) - y1)) + (s * (x1 - x3) - (y1 - y2)) := by grind
              rw [e]; exact Int.dvd_add d2 hsum
            have hz : y3 = z := by
              refine eq_of_dvd co.2.1 ct.2.1 ?_
              have e : y3 - z = (y3 + y2) - (z - -y2) := by grind
              rw [e]; exact Int.dvd_sub hyy d3
            subst hz
            refine .inr ⟨rfl, rfl, ?_, ?_⟩
            · intro hd2
              have h0 := (two_dvd h co.2.1).1 hd2
              subst h0
              have hy2 : P ∣ y2 := by
                have e : y2 = 0 + y2 := by omega
                rw [e]; exact hyy
              refine hsing x3 ?_ ?_
              · have := co.2.2
                simpa using this
              · have e : 3 * x3 * x3 + A = s * 2 * y2 - (s * (2 * y2) - (3 * x3 * x3 + A)) := by grind
                rw [e]; exact Int.dvd_sub (Int.dvd_mul_of_dvd_right hy2) ht
            · have e : u * (2 * y3) - (3 * x3 * x3 + A) = (u - -s) * (2 * y3) - s * 2 * (y3 + y2) + (s * (2 * y2) - (3 * x3 * x3 + A)) := by grind
              rw [e]
              exact Int.dvd_add (Int.dvd_sub (Int.dvd_mul_of_dvd_left d4) (Int.dvd_mul_of_dvd_right hyy)) ht
          · refine .inl ⟨hx, ?_⟩
            have e : u * (x3 - x2) - (y3 - z) = (u - -s) * (x3 - x2) - (y3 - (s * (x1 - x3) - y1)) + (z - -y2) - (s * (x1 - x2) - (y1 - y2)) := by grind
            rw [e]
            exact Int.dvd_sub (Int.dvd_add (Int.dvd_sub (Int.dvd_mul_of_dvd_left d4) d2) d3) hsum
        have e := sum_line (q := ⟨x3, y3, false⟩) (r := turnP P ⟨x2, y2, false⟩) h co rfl rfl (mod_in h (-s)) hl2 ct.2.1
        rw [e]
        have d5 : P ∣ thirdX P ⟨x3, y3, false⟩ (turnP P ⟨x2, y2, false⟩) ((-s) % P) - ((-s) % P * ((-s) % P) - x3 - x2) := dvd_mod
        have d6 : P ∣ thirdY P ⟨x3, y3, false⟩ (turnP P ⟨x2, y2, false⟩) ((-s) % P) - ((-s) % P * (x3 - thirdX P ⟨x3, y3, false⟩ (turnP P ⟨x2, y2, false⟩) ((-s) % P)) - y3) := dvd_mod
        have i5 : 0 ≤ thirdX P ⟨x3, y3, false⟩ (turnP P ⟨x2, y2, false⟩) ((-s) % P) ∧ thirdX P ⟨x3, y3, false⟩ (turnP P ⟨x2, y2, false⟩) ((-s) % P) < P := mod_in h _
        have i6 : 0 ≤ thirdY P ⟨x3, y3, false⟩ (turnP P ⟨x2, y2, false⟩) ((-s) % P) ∧ thirdY P ⟨x3, y3, false⟩ (turnP P ⟨x2, y2, false⟩) ((-s) % P) < P := mod_in h _
        generalize thirdX P ⟨x3, y3, false⟩ (turnP P ⟨x2, y2, false⟩) ((-s) % P) = x4 at *
        generalize thirdY P ⟨x3, y3, false⟩ (turnP P ⟨x2, y2, false⟩) ((-s) % P) = y4 at *
        generalize (-s) % P = u at *
        have ex : x4 = x1 := by
          refine eq_of_dvd i5 cq.1 ?_
          have e : x4 - x1 = (x4 - (u * u - x3 - x2)) + (u - -s) * (u - s) - (x3 - (s * s - x1 - x2)) := by grind
          rw [e]
          exact Int.dvd_sub (Int.dvd_add d5 (Int.dvd_mul_of_dvd_left d4)) d1
        subst ex
        have ey : y4 = y1 := by
          refine eq_of_dvd i6 cq.2.1 ?_
          have e : y4 - y1 = (y4 - (u * (x3 - x4) - y3)) + (u - -s) * (x3 - x4) - (y3 - (s * (x4 - x3) - y1)) := by grind
          rw [e]
          exact Int.dvd_sub (Int.dvd_add d6 (Int.dvd_mul_of_dvd_left d4)) d2
        rw [ey]
end Go.Proofs.YtoepghlkjbpkfaaDoor
