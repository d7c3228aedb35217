/- The first denominator of a sum, and the bound of it, plainly. No condition. -/
import Derived.Test.YtbdiknlbmjdpeaaRunMath
import Derived.Test.YtbdiknlbmjdpeaaLawBounds
namespace Go.Proofs.Ytbdiknlbmjdpeaa
theorem accF_up : ∀ (l : List Int) (p : Nat), accF (p : Int) l = true → ∃ L : List Nat, l = nats L ∧ isUp 1 1000000 (p + 1) L = true
  | [], p, _ => ⟨[], rfl, rfl⟩
  | d :: t, p, h => by
    simp only [accF, Bool.and_eq_true, decide_eq_true_eq] at h
    obtain ⟨n, rfl⟩ := Int.eq_ofNat_of_zero_le (show 0 ≤ d by omega)
    obtain ⟨L, hL, hu⟩ := accF_up t n h.2
    refine ⟨n :: L, by rw [hL]; rfl, ?_⟩
    simp only [isUp, Bool.and_eq_true, decide_eq_true_eq]
    exact ⟨⟨by omega, by omega⟩, hu⟩
theorem chk_nat {a b : Nat} {l : List Int} (ha : 0 < a) (hb : 0 < b) (h : chkB (a : Int) (b : Int) l = true) : ∃ L : List Nat, l = nats L ∧ isUp 1 1000000 2 L = true ∧ isum a b L = true ∧ 1 ≤ L.length ∧ L.length ≤ 8 := by
  unfold chkB accI at h
  simp only [Bool.and_eq_true, decide_eq_true_eq] at h
  obtain ⟨⟨h8, hac⟩, hz⟩ := h
  obtain ⟨L, rfl, hu⟩ := accF_up l 1 hac
  rw [nats_len] at h8
  have hs : isum a b L = true := by
    rw [← numF_isum L a b hb (fun x hx => by have := (isUp_ge hu x hx).1; omega), nats_eq]
    exact decide_eq_true hz
  refine ⟨L, rfl, hu, hs, ?_, h8⟩
  cases L with
  | nil => simp [isum] at hs; omega
  | cons d t => simp
theorem isUp_more {gap m m' : Nat} (hm : m ≤ m') : ∀ {L : List Nat} {l : Nat}, isUp gap m l L = true → isUp gap m' l L = true
  | [], _, _ => rfl
  | d :: t, l, h => by
    simp only [isUp, Bool.and_eq_true, decide_eq_true_eq] at h ⊢
    exact ⟨⟨h.1.1, by omega⟩, isUp_more hm h.2⟩
theorem fdn_ge {α : Type} {f : Nat → Option α} {lo : Nat} : ∀ {k d : Nat}, lo < d → d ≤ lo + k → f d ≠ none → ∃ e x, fdn f lo k = some x ∧ f e = some x ∧ d ≤ e ∧ e ≤ lo + k
  | 0, d, h1, h2, _ => by omega
  | k + 1, d, h1, h2, h3 => by
    cases hf : f (lo + k + 1) with
    | some x => exact ⟨lo + k + 1, x, fdn_yes hf, hf, by omega, by omega⟩
    | none =>
      have hd : d ≤ lo + k := by
        apply Decidable.byContradiction
        intro hn
        have : d = lo + k + 1 := by omega
        rw [this] at h3
        exact h3 hf
      obtain ⟨e, x, g1, g2, g3, g4⟩ := fdn_ge h1 hd h3
      exact ⟨e, x, by rw [fdn_no hf]; exact g1, g2, g3, by omega⟩
theorem first_le {a b d : Nat} {t : List Nat} (hb : 0 < b) (hu : isUp 1 1000000 2 (d :: t) = true) (hs : isum a b (d :: t) = true) : a * d ≤ (t.length + 1) * b := by
  have := isum_le (d :: t) (d := d) hb hs (fun x hx => by
    rcases List.mem_cons.1 hx with rfl | hx
    · exact Nat.le_refl _
    · simp only [isUp, Bool.and_eq_true, decide_eq_true_eq] at hu
      have := (isUp_ge hu.2 x hx).1; omega)
  exact this
/-- Bound finds something where there is a sum, and no less than its first denominator. -/
theorem bound_ge {a b d : Nat} {t : List Nat} (ha : 0 < a) (hb : 0 < b) (hu : isUp 1 1000000 2 (d :: t) = true) (hs : isum a b (d :: t) = true) :
    ∃ n, bndO t.length a b = some n ∧ d ≤ n ∧ n * a ≤ (t.length + 1) * b := by
  have hfl := first_le hb hu hs
  have hu0 := hu
  simp only [isUp, isum, Bool.and_eq_true, decide_eq_true_eq] at hu hs
  match t with
  | [] =>
    have e : a * d = b := by
      have h2 : a * d - b = 0 := by simpa [isum] using hs.2
      omega
    have e2 : b / a = d := by rw [← e, Nat.mul_div_cancel_left _ ha]
    have e3 : b % a = 0 := by rw [← e, Nat.mul_mod_right]
    refine ⟨d, ?_, Nat.le_refl _, by rw [Nat.mul_comm]; simpa using Nat.le_of_eq e⟩
    have h : lst 0 a b = some [d] := by
      show fnd 1 maxI 0 a b 1 = some [d]
      unfold fnd
      rw [e2, if_pos ⟨e3, by omega, le_maxI (Nat.le_trans hu.1.2 (by decide))⟩]
    show (lst 0 a b).map (·.headD 0) = some d
    rw [h]; rfl
  | x :: r =>
    have hd0 : 0 < d := by omega
    have hlt : b < a * d := by
      apply Decidable.byContradiction
      intro hn2
      have e : a * d - b = 0 := by omega
      have h2 := hs.2
      rw [e] at h2
      simp only [isum, Bool.and_eq_true, decide_eq_true_eq] at h2
      have := Nat.mul_pos hb hd0
      omega
    have hne : fnR 1 maxI r.length a b d ≠ none := by
      unfold fnR
      have := fnd_full 1 maxI r.length (num := a * d - b) (den := b * d) (least := d + 1) (L := x :: r) (by omega) (Nat.mul_pos hb hd0) rfl (isUp_more (show (1000000 : Nat) ≤ maxI by decide) hu.2) hs.2
      intro h
      cases hq : fnd 1 maxI r.length (a * d - b) (b * d) (d + 1) with
      | none => exact this hq
      | some y => rw [hq] at h; cases h
    have hD : b / a < d := (lt_div ha).2 hlt
    have hH : d ≤ (r.length + 2) * b / a := (le_divs ha).2 hfl
    have hDH : b / a ≤ (r.length + 2) * b / a := Nat.div_le_div_right (Nat.le_mul_of_pos_left b (show 0 < r.length + 2 by omega))
    obtain ⟨e, y, g1, g2, g3, g4⟩ := fdn_ge (f := fnR 1 maxI r.length a b) (lo := b / a) (k := (r.length + 2) * b / a - b / a) hD (by omega) hne
    have heH : e ≤ (r.length + 2) * b / a := by omega
    have hyh : y.headD 0 = e := by
      unfold fnR at g2
      cases hq : fnd 1 maxI r.length (a * e - b) (b * e) (e + 1) with
      | none => rw [hq] at g2; cases g2
      | some z => rw [hq] at g2; cases g2; rfl
    refine ⟨e, ?_, g3, ?_⟩
    · unfold bndO
      have h : lst (r.length + 1) a b = some y := g1
      rw [show (x :: r).length = r.length + 1 from rfl, h]
      simp only [Option.map_some, hyh]
    · rw [Nat.mul_comm]; exact (le_divs ha).1 heH
end Go.Proofs.Ytbdiknlbmjdpeaa
