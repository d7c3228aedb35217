/- Plain numbers for partitions: which lists are partitions, their columns, squares, ranks and cranks. No condition beyond those that each theorem names. -/
import Derived.WalkKit
namespace Go.Proofs.Ytfecdpglcdhijaa
open Go.RowKit

/-- A partition's rest, behind a part p, with f left of the sum. -/
def okFrom : Int → Int → List Int → Bool
  | _, _, [] => true
  | p, f, x :: r => decide (1 ≤ x) && decide (x ≤ f) && decide (x ≤ p) && okFrom x (f - x) r
def isP (l : List Int) : Bool := okFrom 30 30 l

theorem okFrom_cons {p f x : Int} {r : List Int} (h : okFrom p f (x :: r) = true) : 1 ≤ x ∧ x ≤ f ∧ x ≤ p ∧ okFrom x (f - x) r = true := by
  simp only [okFrom, Bool.and_eq_true, decide_eq_true_eq] at h
  exact ⟨h.1.1.1, h.1.1.2, h.1.2, h.2⟩
theorem okFrom_mk {p f x : Int} {r : List Int} (h1 : 1 ≤ x) (h2 : x ≤ f) (h3 : x ≤ p) (h : okFrom x (f - x) r = true) : okFrom p f (x :: r) = true := by
  simp only [okFrom, Bool.and_eq_true, decide_eq_true_eq]
  exact ⟨⟨⟨h1, h2⟩, h3⟩, h⟩
theorem okFrom_no {p f x : Int} {r : List Int} (h : x < 1 ∨ f < x ∨ p < x) : okFrom p f (x :: r) = false := by
  simp only [okFrom, Bool.and_eq_false_iff, decide_eq_false_iff_not]
  omega
theorem okFrom_yes {p f x : Int} {r : List Int} (h1 : 1 ≤ x) (h2 : x ≤ f) (h3 : x ≤ p) : okFrom p f (x :: r) = okFrom x (f - x) r := by
  simp [okFrom, h1, h2, h3]

theorem okFrom_len : ∀ (l : List Int) (p f : Int), 0 ≤ f → okFrom p f l = true → (l.length : Int) ≤ f
  | [], _, _, h, _ => by simpa using h
  | x :: r, p, f, _, h => by
    obtain ⟨h1, h2, h3, h4⟩ := okFrom_cons h
    have := okFrom_len r x (f - x) (by omega) h4
    simp only [List.length_cons]
    omega
theorem okFrom_mem : ∀ (l : List Int) (p f : Int), okFrom p f l = true → ∀ x ∈ l, 1 ≤ x ∧ x ≤ f ∧ x ≤ p
  | [], _, _, _, x, hx => by cases hx
  | y :: r, p, f, h, x, hx => by
    obtain ⟨h1, h2, h3, h4⟩ := okFrom_cons h
    rcases List.mem_cons.1 hx with rfl | hx
    · exact ⟨h1, h2, h3⟩
    · have := okFrom_mem r y (f - y) h4 x hx
      omega
theorem okFrom_take : ∀ (l : List Int) (p f : Int) (k : Nat), okFrom p f l = true → okFrom p f (l.take k) = true
  | [], _, _, _, _ => by simp [okFrom]
  | _ :: _, _, _, 0, _ => by simp [okFrom]
  | x :: r, p, f, k + 1, h => by
    obtain ⟨h1, h2, h3, h4⟩ := okFrom_cons h
    exact okFrom_mk h1 h2 h3 (okFrom_take r x (f - x) k h4)
theorem isP_len {l : List Int} (h : isP l = true) : l.length ≤ 30 := by
  have := okFrom_len l 30 30 (by omega) h
  omega
theorem isP_take (l : List Int) : isP (l.take 34) = isP l := by
  by_cases h : isP (l.take 34) = true
  · have h1 := isP_len h
    have h2 : l.take 34 = l := List.take_of_length_le (by rw [List.length_take] at h1; omega)
    rw [h2]
  · have h' : isP (l.take 34) = false := by simpa using h
    rw [h']
    by_cases g : isP l = true
    · exact absurd (okFrom_take l 30 30 34 g) h
    · simpa using Eq.symm (by simpa using g : isP l = false)
theorem isP_take_yes {l : List Int} (h : isP l = true) : l.take 34 = l := List.take_of_length_le (by have := isP_len h; omega)
theorem isP_mem {l : List Int} (h : isP l = true) {x : Int} (hx : x ∈ l) : 1 ≤ x ∧ x ≤ 30 := by
  have := okFrom_mem l 30 30 h x hx
  omega
theorem getD_mem {l : List Int} {j : Nat} (h : j < l.length) : l.getD j 0 ∈ l := by
  simp [List.getD, h]
theorem drop_cons {l : List Int} {j : Nat} (h : j < l.length) : l.drop j = l.getD j 0 :: l.drop (j + 1) := by
  rw [List.drop_eq_getElem_cons h]; simp [List.getD, h]
theorem isP_at {l : List Int} (h : isP l = true) {j : Nat} (hj : j < l.length) : 1 ≤ l.getD j 0 ∧ l.getD j 0 ≤ 30 := isP_mem h (getD_mem hj)
theorem okFrom_step : ∀ (l : List Int) (p f : Int), okFrom p f l = true → ∀ j, j + 1 < l.length → l.getD (j + 1) 0 ≤ l.getD j 0
  | [], _, _, _, j, hj => by simp at hj
  | [_], _, _, _, j, hj => by simp at hj
  | x :: y :: r, p, f, h, 0, _ => by
    obtain ⟨-, -, -, h4⟩ := okFrom_cons h
    exact (okFrom_cons h4).2.2.1
  | x :: y :: r, p, f, h, j + 1, hj => by
    obtain ⟨-, -, -, h4⟩ := okFrom_cons h
    exact okFrom_step (y :: r) x (f - x) h4 j (by simpa using hj)
theorem isP_step {l : List Int} (h : isP l = true) {j : Nat} (hj : j + 1 < l.length) : l.getD (j + 1) 0 ≤ l.getD j 0 := okFrom_step l 30 30 h j hj
theorem isP_head {l : List Int} (h : isP l = true) {j : Nat} (hj : j < l.length) : l.getD j 0 ≤ l.getD 0 0 := by
  induction j with
  | zero => omega
  | succ j ih => exact Int.le_trans (isP_step h hj) (ih (by omega))

/-- How many of a list are greater than c. -/
def over (c : Int) : List Int → Int
  | [] => 0
  | x :: r => (if c < x then 1 else 0) + over c r
theorem over_nonneg (c : Int) : ∀ l, 0 ≤ over c l ∧ over c l ≤ l.length
  | [] => by simp [over]
  | x :: r => by
    have := over_nonneg c r
    simp only [over, List.length_cons]
    split <;> omega
theorem over_append (c : Int) : ∀ a b, over c (a ++ b) = over c a + over c b
  | [], b => by simp [over]
  | x :: r, b => by simp [over, over_append c r b]; omega
theorem take_succ_getD {l : List Int} {k : Nat} (h : k < l.length) : l.take (k + 1) = l.take k ++ [l.getD k 0] := by
  rw [List.take_add_one]; simp [List.getD, h]
theorem over_take {l : List Int} {k : Nat} (h : k < l.length) (c : Int) : over c (l.take (k + 1)) = over c (l.take k) + if c < l.getD k 0 then 1 else 0 := by
  rw [take_succ_getD h, over_append]
  simp [over]
/-- The columns. -/
def conjL (l : List Int) : List Int := (List.range (l.headD 0).toNat).map fun c : Nat => over (c : Int) l
theorem conjL_len (l : List Int) : (conjL l).length = (l.headD 0).toNat := by simp [conjL]
theorem headD_getD (l : List Int) : l.headD 0 = l.getD 0 0 := by cases l <;> rfl
theorem conjL_at {l : List Int} {j : Nat} (h : j < (l.headD 0).toNat) : (conjL l).getD j 0 = over (j : Int) l := by
  unfold conjL
  rw [List.getD_eq_getElem?_getD, List.getElem?_map, List.getElem?_range h]
  rfl
theorem conjL_nil : conjL [] = [] := rfl

/-- The square, counted on from k. -/
def sqFrom : Nat → List Int → Nat
  | k, [] => k
  | k, x :: r => if (k : Int) < x then sqFrom (k + 1) r else k
def sqL (l : List Int) : Int := sqFrom 0 l
theorem sqFrom_le : ∀ (l : List Int) (k : Nat), sqFrom k l ≤ k + l.length
  | [], k => by simp [sqFrom]
  | x :: r, k => by
    simp only [sqFrom, List.length_cons]
    split
    · have := sqFrom_le r (k + 1); omega
    · omega
def rankL (l : List Int) : Int := if l.length = 0 then 0 else l.getD 0 0 - l.length
def ones : List Int → Int
  | [] => 0
  | x :: r => (if x = 1 then 1 else 0) + ones r
theorem ones_nonneg : ∀ l, 0 ≤ ones l ∧ ones l ≤ l.length
  | [] => by simp [ones]
  | x :: r => by
    have := ones_nonneg r
    simp only [ones, List.length_cons]
    split <;> omega
theorem ones_append : ∀ a b, ones (a ++ b) = ones a + ones b
  | [], b => by simp [ones]
  | x :: r, b => by simp [ones, ones_append r b]; omega
theorem ones_take {l : List Int} {k : Nat} (h : k < l.length) : ones (l.take (k + 1)) = ones (l.take k) + if l.getD k 0 = 1 then 1 else 0 := by
  rw [take_succ_getD h, ones_append]
  simp [ones]
def crankL (l : List Int) : Int := if l.length = 0 then 0 else if ones l = 0 then l.getD 0 0 else over (ones l) l - ones l
def sumL : List Int → Int
  | [] => 0
  | x :: r => x + sumL r
theorem sumL_append : ∀ a b, sumL (a ++ b) = sumL a + sumL b
  | [], b => by simp [sumL]
  | x :: r, b => by simp [sumL, sumL_append r b]; omega
theorem sumL_take {l : List Int} {k : Nat} (h : k < l.length) : sumL (l.take (k + 1)) = sumL (l.take k) + l.getD k 0 := by
  rw [take_succ_getD h, sumL_append]
  simp [sumL]
theorem okFrom_sum : ∀ (l : List Int) (p f : Int), 0 ≤ f → okFrom p f l = true → 0 ≤ sumL l ∧ sumL l ≤ f
  | [], _, _, h, _ => by simp [sumL, h]
  | x :: r, p, f, _, h => by
    obtain ⟨h1, h2, h3, h4⟩ := okFrom_cons h
    have := okFrom_sum r x (f - x) (by omega) h4
    simp only [sumL]
    omega
theorem isP_sum {l : List Int} (h : isP l = true) : 0 ≤ sumL l ∧ sumL l ≤ 30 := okFrom_sum l 30 30 (by omega) h
end Go.Proofs.Ytfecdpglcdhijaa
