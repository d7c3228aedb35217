/- The walks of Bound and of the reference's sum and Bound. Conditions: the numbers are in range. -/
import Derived.Test.YtbdiknlbmjdpeaaLast
import Derived.Test.YtbdiknlbmjdpeaaLawShort
namespace Go.Proofs.Ytbdiknlbmjdpeaa
open Go.RowKit
attribute [local go_sem] Oper.semAt_some


theorem eqNil : ∀ (w : World) (a : Option Addr) (n c n' c' : Nat), (binOp .eql 22 (.slice a n c) (.slice none n' c')).run Try.prog w = .ok (.bool a.isNone) w := fun w a n c n' c' => Lib.run_eql_slice_nil w _ _ a n c n' c' Try.underlying22
theorem fitB_mono {most : Nat} : ∀ {t den den' : Nat}, den ≤ den' → fitB most t den' → fitB most t den
  | 0, _, _, h, g => Nat.le_trans h g
  | t + 1, den, den', h, g => by
    obtain ⟨g1, g2⟩ := g
    have h1 : (t + 2) * den ≤ (t + 2) * den' := Nat.mul_le_mul_left _ h
    exact ⟨Nat.le_trans h1 g1, fun d hd hd2 => fitB_mono (Nat.mul_le_mul_right d h) (g2 d hd (Nat.le_trans hd2 h1))⟩
theorem fitB_300 : fitB maxI 2 300 := by
  refine ⟨by decide, fun d _ h => ⟨?_, fun e _ h2 => ?_⟩⟩
  · have h1 : d ≤ 900 := h
    exact Nat.le_trans (Nat.mul_le_mul_left _ (Nat.mul_le_mul_left 300 h1)) (by decide)
  · have h1 : d ≤ 900 := h
    have h3 : 300 * d ≤ 270000 := Nat.mul_le_mul_left 300 h1
    have h4 : e ≤ 540000 := Nat.le_trans h2 (Nat.mul_le_mul_left 2 h3)
    exact Nat.le_trans (Nat.mul_le_mul h3 h4) (by decide)
theorem fitB_down {most t den : Nat} (h : fitB most (t + 1) den) (hm : 0 < most) (hd : 0 < den) : fitB most t den := by
  have := h.2 1 hm (Nat.mul_pos (by omega) hd)
  rwa [Nat.mul_one] at this
theorem fitB_bound {t b : Nat} (ht : t ≤ 2) (hb0 : 0 < b) (hb : b ≤ 300) : fitB maxI t b := by
  have h2 : fitB maxI 2 b := fitB_mono hb fitB_300
  have h1 := fitB_down h2 (by decide) hb0
  have h0 := fitB_down h1 (by decide) hb0
  match t, ht with
  | 0, _ => exact h0
  | 1, _ => exact h1
  | 2, _ => exact h2
theorem fitB_split {b : Nat} (hb : b ≤ 100000) : fitB maxI 1 b := by
  refine fitB_mono hb ⟨by decide, fun d _ h => ?_⟩
  have h1 : d ≤ 200000 := h
  exact Nat.le_trans (Nat.mul_le_mul_left 100000 h1) (by decide)

/-- The arguments that Bound takes. -/
def boundOk (a b t : Int) : Bool := isSh a b && decide (1 ≤ t) && decide (t ≤ 3)
/-- What Bound answers. -/
def bndO (t a b : Nat) : Option Nat := (lst t a b).map (·.headD 0)
def BRes (R : Option Nat) (e : Ending) : Prop :=
  match R with
  | some n => e = .returned (.tuple #[.int .i64 (n : Int), .int .i64 0])
  | none => e = .returned (.tuple #[.int .i64 0, .int .i64 4])
theorem Bound_no (a b t : Int) (h : boundOk a b t = false) (w : World) :
    Calls Try.prog 35 #[.int .i64 a, .int .i64 b, .int .i64 t] w fun e w' => e = .returned (.tuple #[.int .i64 0, .int .i64 2]) ∧ w = w' := by
  have hV := fun w => valid_any a b w
  unfold boundOk at h
  obtain ⟨B, hB⟩ : ∃ B, isSh a b = B := ⟨_, rfl⟩
  rw [hB] at hV h
  have HV := Lib.hid hV
  clear hV hB
  cases B with
  | false =>
    clear h
    go_enter Try.func35, Try.ntmps35
    go_wp2_with fail
    refine (HV.out _).mono ?_
    rintro e w1 ⟨rfl, rfl⟩
    go_wp2
    go_ret2
    exact ⟨rfl, rfl⟩
  | true =>
    by_cases h1 : t < 1
    · clear h
      have b1 : decide (t < 1) = true := by simpa using h1
      go_enter Try.func35, Try.ntmps35
      go_wp2_with fail
      refine (HV.out _).mono ?_
      rintro e w1 ⟨rfl, rfl⟩
      go_wp2
      go_ret2
      exact ⟨rfl, rfl⟩
    · have b1 : decide (t < 1) = false := by simpa using h1
      by_cases h2 : 3 < t
      · clear h
        have b2 : decide (3 < t) = true := by simpa using h2
        go_enter Try.func35, Try.ntmps35
        go_wp2_with fail
        refine (HV.out _).mono ?_
        rintro e w1 ⟨rfl, rfl⟩
        go_wp2
        go_ret2
        exact ⟨rfl, rfl⟩
      · exfalso
        have g1 : decide (1 ≤ t) = true := by simp; omega
        have g2 : decide (t ≤ 3) = true := by simp; omega
        rw [g1, g2] at h
        cases h
theorem lst_len {t a b : Nat} {L : List Nat} (ha : 0 < a) (hb : 0 < b) (h : lst t a b = some L) : L.length = t + 1 := by
  cases t with
  | zero => exact (fnd_sound 1 maxI 0 ha hb h).1
  | succ t =>
    have h : fdn (fnR 1 maxI t a b) (b / a) ((t + 2) * b / a - b / a) = some L := h
    generalize (t + 2) * b / a - b / a = k at h
    induction k with
    | zero => cases h
    | succ k ih =>
      cases hf : fnR 1 maxI t a b (b / a + k + 1) with
      | none => rw [fdn_no hf] at h; exact ih h
      | some x =>
        rw [fdn_yes hf] at h
        cases h
        unfold fnR at hf
        have hd : b / a < b / a + k + 1 := by omega
        have h0 : 0 < b / a + k + 1 := Nat.succ_pos _
        have hlt := (lt_div ha).1 hd
        generalize b / a + k + 1 = d at hf hlt h0
        cases hr : fnd 1 maxI t (a * d - b) (b * d) (d + 1) with
        | none => rw [hr] at hf; cases hf
        | some M =>
          rw [hr] at hf
          cases hf
          have := (fnd_sound 1 maxI t (show 0 < a * d - b by omega) (Nat.mul_pos hb h0) hr).1
          simp [this]
theorem Row.head {B g c : Nat} {x : Nat} {L : List Nat} {W : World} (h : Row B (.slice (some ⟨g, 0, none⟩) (x :: L).length c) (nats (x :: L)) W) : W.cell? ⟨g, 0, none⟩ = some (.int .i64 (x : Int)) := by
  have := nats_cells h 0 (.int .i64 (x : Int)) rfl
  simpa [Addr.add] using this

set_option maxHeartbeats 4000000 in
set_option maxRecDepth 100000 in
theorem Bound_yes (a b t : Nat) (ha : 0 < a) (hab : a < b) (hb : b ≤ 60) (ht : t ≤ 2) (w : World) :
    Calls Try.prog 35 #[.int .i64 (a : Int), .int .i64 (b : Int), .int .i64 ((t + 1 : Nat) : Int)] w fun e w' => BRes (bndO t a b) e ∧ Below w.heap.size w w' := by
  have hV := fun w => valid_any a b w
  rw [isSh_spec.2 ⟨by omega, by omega, by omega⟩] at hV
  have HV := Lib.hid hV
  have hF : ∀ w, Calls Try.prog 52 #[.agg #[.int .i64 (a : Int), .int .i64 (b : Int)], .int .i64 ((t + 1 : Nat) : Int)] w fun e w' => Fnd (lst t a b) w.heap.size e w' ∧ Below w.heap.size w w' := by
    intro w
    have ha3 : a ≤ 3000000000000000000 := Nat.le_trans (Nat.le_of_lt hab) (Nat.le_trans hb (by decide))
    have hfit := fitB_bound (t := t) ht (show 0 < b by omega) (by omega)
    cases t with
    | zero => exact last_one a b w ha (by omega) ha3 hfit.le
    | succ t => exact last_more t a b w (by omega) ha (by omega) ha3 hfit
  have hln := fun L h => lst_len (t := t) (a := a) (b := b) (L := L) ha (by omega) h
  unfold bndO
  obtain ⟨R, hR⟩ : ∃ R, lst t a b = R := ⟨_, rfl⟩
  simp only [hR] at hF hln
  rw [hR]
  have HF := Lib.hid hF
  have HLN := Lib.hid hln
  obtain ⟨T, hT⟩ : ∃ T, t + 1 = T := ⟨_, rfl⟩
  rw [hT] at HF ⊢
  have b1 : ¬ (T : Int) < 1 := by omega
  have b2 : ¬ (3 : Int) < (T : Int) := by omega
  clear hV hR hF hln hT
  have q22 := eqNil
  go_enter Try.func35, Try.ntmps35
  go_wp2_with fail
  refine (HV.out _).mono ?_
  rintro e w1 ⟨rfl, rfl⟩
  go_wp2_with fail
  refine (HF.out _).mono ?_
  rintro e w1 ⟨hf, hb1⟩
  have HB1 := Lib.hid hb1
  clear hb1
  cases R with
  | none =>
    have he : e = .returned (.slice none 0 0) := hf
    subst he
    clear hf
    go_wp2
    go_ret2
    exact ⟨rfl, HB1.out⟩
  | some L =>
    obtain ⟨g, c, rfl, hr⟩ := hf
    have hl := HLN.out L rfl
    cases L with
    | nil => cases hl
    | cons x M =>
      have hc := hr.head
      obtain ⟨N, hN⟩ : ∃ N, (x :: M).length = N := ⟨_, rfl⟩
      rw [hN]
      have n0 : (0 : Int) < (N : Int) := by simp at hN; omega
      have n1 : 0 < N := by omega
      clear hl hr hN
      go_wp2
      go_ret2
      exact ⟨rfl, HB1.out⟩
end Go.Proofs.Ytbdiknlbmjdpeaa
