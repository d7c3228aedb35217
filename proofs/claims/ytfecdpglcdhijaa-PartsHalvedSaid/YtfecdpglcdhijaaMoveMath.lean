/- Franklin's move on its result, checked by the kernel on all partitions into different parts. No condition. -/
import Derived.Test.YtfecdpglcdhijaaPent
namespace Go.Proofs.Ytfecdpglcdhijaa
open Go.RowKit

/-- All lists of different parts, falling, of at most p, with a sum of at most f. -/
def chk (P : List Int → Bool) : Nat → Nat → Nat → List Int → Bool
  | 0, _, _, acc => P acc.reverse
  | t + 1, p, f, acc => P acc.reverse && (List.range (min p f)).all fun i => chk P t i (f - (i + 1)) (((i + 1 : Nat) : Int) :: acc)
def okS : Int → Int → List Int → Bool
  | _, _, [] => true
  | p, f, x :: r => decide (1 ≤ x) && decide (x ≤ f) && decide (x ≤ p) && okS (x - 1) (f - x) r
theorem chk_spec (P : List Int → Bool) : ∀ (t p f : Nat) (acc xs : List Int), f ≤ t → chk P t p f acc = true → okS p f xs = true → P (acc.reverse ++ xs) = true
  | 0, p, f, acc, [], _, h, _ => by rw [List.append_nil]; exact h
  | t + 1, p, f, acc, [], _, h, _ => by
    rw [List.append_nil]
    rw [chk, Bool.and_eq_true] at h
    exact h.1
  | 0, p, f, acc, x :: r, hf, h, ho => by
    simp only [okS, Bool.and_eq_true, decide_eq_true_eq] at ho
    omega
  | t + 1, p, f, acc, x :: r, hf, h, ho => by
    simp only [okS, Bool.and_eq_true, decide_eq_true_eq] at ho
    rw [chk, Bool.and_eq_true, List.all_eq_true] at h
    obtain ⟨⟨⟨h1, h2⟩, h3⟩, h4⟩ := ho
    obtain ⟨i, hi⟩ : ∃ i : Nat, x = ((i + 1 : Nat) : Int) := ⟨x.toNat - 1, by omega⟩
    have := h.2 i (List.mem_range.2 (by omega))
    have ih := chk_spec P t i (f - (i + 1)) (((i + 1 : Nat) : Int) :: acc) r (by omega) this (by
      rw [show ((i : Nat) : Int) = x - 1 by omega, show ((f - (i + 1) : Nat) : Int) = (f : Int) - x by omega]
      exact h4)
    rw [List.reverse_cons, List.append_assoc] at ih
    rw [hi]
    exact ih
theorem okS_of : ∀ (xs : List Int) (p q f : Int), okFrom p f xs = true → diffFrom q xs = true → p ≤ q → okS (q - 1) f xs = true ∨ xs = []
  | [], _, _, _, _, _, _ => .inr rfl
  | x :: r, p, q, f, ho, hd, hpq => by
    left
    obtain ⟨h1, h2, h3, h4⟩ := okFrom_cons ho
    simp only [diffFrom, Bool.and_eq_true, Bool.not_eq_true', beq_eq_false_iff_ne] at hd
    have : okS (x - 1) (f - x) r = true := by
      rcases okS_of r x x (f - x) h4 hd.2 (Int.le_refl _) with h | h
      · exact h
      · rw [h]; rfl
    simp only [okS, Bool.and_eq_true, decide_eq_true_eq]
    exact ⟨⟨⟨h1, h2⟩, by omega⟩, this⟩
theorem okS_all {xs : List Int} (hP : isP xs = true) (hD : diffL xs = true) : okS 30 30 xs = true := by
  cases xs with
  | nil => rfl
  | cons x r =>
    obtain ⟨h1, h2, h3, h4⟩ := okFrom_cons hP
    have : okS (x - 1) (30 - x) r = true := by
      rcases okS_of r x x (30 - x) h4 hD (Int.le_refl _) with h | h
      · exact h
      · rw [h]; rfl
    simp only [okS, Bool.and_eq_true, decide_eq_true_eq]
    exact ⟨⟨⟨h1, h2⟩, h3⟩, this⟩

def movedOK (xs : List Int) : Bool :=
  xs.isEmpty || bif failL xs then penF (sumL xs).toNat (sumL xs).toNat == 1 - 2 * ((xs.length : Int) % 2)
  else isP (moveL xs) && diffL (moveL xs) && !(failL (moveL xs)) && (moveL (moveL xs) == xs) && (sumL (moveL xs) == sumL xs) && ((moveL xs).length == xs.length + 1 || xs.length == (moveL xs).length + 1)
set_option maxRecDepth 100000 in
theorem movedCheck : chk movedOK 30 30 30 [] = true := by decide +kernel
theorem moved_all {xs : List Int} (hP : isP xs = true) (hD : diffL xs = true) (hn : 1 ≤ xs.length) :
    (failL xs = true ∧ penF (sumL xs).toNat (sumL xs).toNat = 1 - 2 * ((xs.length : Int) % 2)) ∨
    (failL xs = false ∧ isP (moveL xs) = true ∧ diffL (moveL xs) = true ∧ failL (moveL xs) = false ∧ moveL (moveL xs) = xs ∧ sumL (moveL xs) = sumL xs ∧ ((moveL xs).length = xs.length + 1 ∨ xs.length = (moveL xs).length + 1)) := by
  have h := chk_spec movedOK 30 30 30 [] xs (by omega) movedCheck (okS_all hP hD)
  rw [List.reverse_nil, List.nil_append] at h
  unfold movedOK at h
  have he : xs.isEmpty = false := by cases xs with | nil => simp at hn | cons => rfl
  rw [he, Bool.false_or] at h
  cases hF : failL xs with
  | true => rw [hF] at h; exact .inl ⟨rfl, by simpa using h⟩
  | false =>
    rw [hF] at h
    simp only [cond_false, Bool.and_eq_true, Bool.or_eq_true, beq_iff_eq, Bool.not_eq_true'] at h
    obtain ⟨⟨⟨⟨⟨h1, h2⟩, h3⟩, h4⟩, h5⟩, h6⟩ := h
    exact .inr ⟨rfl, h1, h2, h3, h4, h5, h6⟩
end Go.Proofs.Ytfecdpglcdhijaa
