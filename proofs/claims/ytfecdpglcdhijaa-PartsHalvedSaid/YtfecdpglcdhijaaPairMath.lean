/- Joining equal parts and halving even ones, as plain functions on lists. No condition beyond those that each theorem names. -/
import Derived.Test.YtfecdpglcdhijaaFall
namespace Go.Proofs.Ytfecdpglcdhijaa
open Go.RowKit

def joinF (xs : List Int) (j : Nat) : List Int :=
  if h : j + 1 < xs.length then
    if xs.getD (j + 1) 0 = xs.getD j 0 then joinF (sortD (xs.take j ++ (xs.getD j 0 * 2) :: xs.drop (j + 2))) 0
    else joinF xs (j + 1)
  else xs
termination_by (xs.length, xs.length - j)
decreasing_by
  · apply Prod.Lex.left
    rw [sortD_len]
    simp
    omega
  · apply Prod.Lex.right
    omega
theorem joinF_end {xs : List Int} {j : Nat} (h : ¬ j + 1 < xs.length) : joinF xs j = xs := by rw [joinF, dif_neg h]
theorem joinF_join {xs : List Int} {j : Nat} (h : j + 1 < xs.length) (he : xs.getD (j + 1) 0 = xs.getD j 0) : joinF xs j = joinF (sortD (xs.take j ++ (xs.getD j 0 * 2) :: xs.drop (j + 2))) 0 := by
  rw [joinF, dif_pos h, if_pos he]
theorem joinF_on {xs : List Int} {j : Nat} (h : j + 1 < xs.length) (he : ¬ xs.getD (j + 1) 0 = xs.getD j 0) : joinF xs j = joinF xs (j + 1) := by
  rw [joinF, dif_pos h, if_neg he]

def halfF (xs : List Int) (i : Nat) : List Int :=
  if h : i < xs.length ∧ xs.length ≤ 30 then
    if xs.getD i 0 % 2 = 0 then halfF (sortD (xs.take i ++ (xs.getD i 0 / 2) :: (xs.getD i 0 / 2) :: xs.drop (i + 1))) 0
    else halfF xs (i + 1)
  else xs
termination_by (31 - xs.length, xs.length - i)
decreasing_by
  · apply Prod.Lex.left
    rw [sortD_len]
    simp
    omega
  · apply Prod.Lex.right
    omega
theorem halfF_end {xs : List Int} {i : Nat} (h : ¬ i < xs.length) : halfF xs i = xs := by rw [halfF, dif_neg (by omega)]
theorem halfF_half {xs : List Int} {i : Nat} (h : i < xs.length) (h2 : xs.length ≤ 30) (he : xs.getD i 0 % 2 = 0) : halfF xs i = halfF (sortD (xs.take i ++ (xs.getD i 0 / 2) :: (xs.getD i 0 / 2) :: xs.drop (i + 1))) 0 := by
  rw [halfF, dif_pos ⟨h, h2⟩, if_pos he]
theorem halfF_on {xs : List Int} {i : Nat} (h : i < xs.length) (h2 : xs.length ≤ 30) (he : ¬ xs.getD i 0 % 2 = 0) : halfF xs i = halfF xs (i + 1) := by
  rw [halfF, dif_pos ⟨h, h2⟩, if_neg he]

/-- Parts from 1 on, 30 in all at most. -/
def goodL (xs : List Int) : Prop := (∀ x ∈ xs, 1 ≤ x) ∧ sumL xs ≤ 30
theorem sumL_cons (x : Int) (r : List Int) : sumL (x :: r) = x + sumL r := rfl
theorem sumL_perm {l m : List Int} (h : l.Perm m) : sumL l = sumL m := by
  induction h with
  | nil => rfl
  | cons x _ ih => rw [sumL_cons, sumL_cons, ih]
  | swap x y l => simp only [sumL_cons]; omega
  | trans _ _ h1 h2 => rw [h1, h2]
theorem sumL_ge : ∀ (l : List Int), (∀ x ∈ l, 1 ≤ x) → (l.length : Int) ≤ sumL l
  | [], _ => by simp [sumL]
  | x :: r, h => by
    have h1 := h x (by simp)
    have h2 := sumL_ge r fun y hy => h y (by simp [hy])
    rw [sumL_cons, List.length_cons]
    omega
theorem sumL_mem : ∀ (l : List Int), (∀ x ∈ l, 1 ≤ x) → ∀ x ∈ l, x ≤ sumL l
  | [], _, _, h => by cases h
  | y :: r, h, x, hx => by
    have h1 := h y (by simp)
    have h2 := sumL_ge r fun z hz => h z (by simp [hz])
    rw [sumL_cons]
    rcases List.mem_cons.1 hx with rfl | hx
    · omega
    · have := sumL_mem r (fun z hz => h z (by simp [hz])) x hx
      omega
theorem goodL.len {xs : List Int} (h : goodL xs) : xs.length ≤ 30 := by
  have := sumL_ge xs h.1
  have := h.2
  omega
theorem goodL.at {xs : List Int} (h : goodL xs) {j : Nat} (hj : j < xs.length) : 1 ≤ xs.getD j 0 ∧ xs.getD j 0 ≤ 30 := by
  have hm : xs.getD j 0 ∈ xs := by
    rw [List.getD_eq_getElem?_getD, List.getElem?_eq_getElem hj]
    exact List.getElem_mem hj
  have h1 := h.1 _ hm
  have h2 := sumL_mem xs h.1 _ hm
  have := h.2
  omega
theorem goodL.perm {l m : List Int} (hp : l.Perm m) (h : goodL m) : goodL l :=
  ⟨fun x hx => h.1 x (hp.mem_iff.1 hx), by rw [sumL_perm hp]; exact h.2⟩
theorem goodL.sort {l : List Int} (h : goodL l) : goodL (sortD l) := h.perm (sortD_perm l)
theorem split_two {xs : List Int} {j : Nat} (h : j + 1 < xs.length) : xs = xs.take j ++ xs.getD j 0 :: xs.getD (j + 1) 0 :: xs.drop (j + 2) := by
  have h1 := drop_cons (l := xs) (j := j) (by omega)
  have h2 := drop_cons (l := xs) (j := j + 1) h
  rw [← h2, ← h1, List.take_append_drop]
theorem split_one {xs : List Int} {j : Nat} (h : j < xs.length) : xs = xs.take j ++ xs.getD j 0 :: xs.drop (j + 1) := by
  have h1 := drop_cons (l := xs) (j := j) h
  rw [← h1, List.take_append_drop]
theorem goodL.join {xs : List Int} (h : goodL xs) {j : Nat} (hj : j + 1 < xs.length) (he : xs.getD (j + 1) 0 = xs.getD j 0) : goodL (xs.take j ++ (xs.getD j 0 * 2) :: xs.drop (j + 2)) := by
  have hx := h.at (j := j) (by omega)
  refine ⟨fun x hx2 => ?_, ?_⟩
  · rcases List.mem_append.1 hx2 with h1 | h1
    · exact h.1 x (List.mem_of_mem_take h1)
    · rcases List.mem_cons.1 h1 with rfl | h1
      · omega
      · exact h.1 x (List.mem_of_mem_drop h1)
  · have h2 := h.2
    rw [split_two hj, he] at h2
    rw [sumL_append, sumL_cons] at h2 ⊢
    rw [sumL_cons] at h2
    omega
theorem goodL.half {xs : List Int} (h : goodL xs) {i : Nat} (hi : i < xs.length) (he : xs.getD i 0 % 2 = 0) : goodL (xs.take i ++ (xs.getD i 0 / 2) :: (xs.getD i 0 / 2) :: xs.drop (i + 1)) := by
  have hx := h.at hi
  refine ⟨fun x hx2 => ?_, ?_⟩
  · rcases List.mem_append.1 hx2 with h1 | h1
    · exact h.1 x (List.mem_of_mem_take h1)
    · rcases List.mem_cons.1 h1 with rfl | h1
      · omega
      · rcases List.mem_cons.1 h1 with rfl | h1
        · omega
        · exact h.1 x (List.mem_of_mem_drop h1)
  · have h2 := h.2
    rw [split_one hi] at h2
    rw [sumL_append, sumL_cons] at h2 ⊢
    rw [sumL_cons]
    omega
theorem set_take_drop (xs : List Int) (j : Nat) (v : Int) (h : j + 1 < xs.length) : (xs.set j v).take (j + 1) ++ (xs.set j v).drop (j + 2) = xs.take j ++ v :: xs.drop (j + 2) := by
  have e : xs.set j v = xs.take j ++ v :: xs.drop (j + 1) := List.set_eq_take_append_cons_drop .. |>.trans (if_pos (by omega))
  have hl : (xs.take j).length = j := by rw [List.length_take]; omega
  have d0 : (xs.take j).drop (j + 2) = [] := List.drop_of_length_le (by omega)
  have d1 : (xs.take j).take (j + 1) = xs.take j := List.take_of_length_le (by omega)
  rw [e, List.take_append, List.drop_append, hl, show j + 1 - j = 1 by omega, show j + 2 - j = 2 by omega, d0, d1]
  simp
theorem set_append_perm (xs : List Int) (i : Nat) (v : Int) (h : i < xs.length) : (xs.set i v ++ [v]).Perm (xs.take i ++ v :: v :: xs.drop (i + 1)) := by
  have e : xs.set i v = xs.take i ++ v :: xs.drop (i + 1) := List.set_eq_take_append_cons_drop .. |>.trans (if_pos h)
  rw [e, List.append_assoc]
  refine List.Perm.append_left _ ?_
  rw [List.cons_append]
  exact List.Perm.cons v (List.perm_append_comm (l₁ := xs.drop (i + 1)) (l₂ := [v]))
theorem isP_good {xs : List Int} (h : isP xs = true) : goodL xs := ⟨fun x hx => (isP_mem h hx).1, (isP_sum h).2⟩
theorem isP_falls {xs : List Int} (h : isP xs = true) : sortD xs = xs := by
  refine sortD_of (List.Perm.refl _) ?_
  have key : ∀ (l : List Int) (p f : Int), okFrom p f l = true → l.Pairwise (fun a b => b ≤ a) := by
    intro l
    induction l with
    | nil => intros; exact List.Pairwise.nil
    | cons x r ih =>
      intro p f h
      obtain ⟨h1, h2, h3, h4⟩ := okFrom_cons h
      exact List.Pairwise.cons (fun y hy => (okFrom_mem r x (f - x) h4 y hy).2.2) (ih _ _ h4)
  exact key xs 30 30 h

/-- One number more, put where it belongs. -/
theorem sortD_put {ys out : List Int} {x : Int} {at' : Nat} (ho : out = sortD ys) (hat : at' ≤ out.length) (hge : ∀ j, j < at' → x ≤ out.getD j 0) (hlt : at' = out.length ∨ out.getD at' 0 < x) : out.take at' ++ x :: out.drop at' = sortD (ys ++ [x]) := by
  have hf : out.Pairwise fun a b => b ≤ a := by rw [ho]; exact sortD_falls ys
  refine (sortD_of ?_ ?_).symm
  · have h1 : (out.take at' ++ x :: out.drop at').Perm (x :: (out.take at' ++ out.drop at')) := List.perm_middle
    rw [List.take_append_drop] at h1
    refine h1.trans ?_
    rw [ho]
    exact ((sortD_perm ys).cons x).trans (List.perm_append_comm (l₁ := [x]) (l₂ := ys))
  · rw [← List.take_append_drop at' out, List.pairwise_append] at hf
    obtain ⟨h1, h2, h3⟩ := hf
    have hd : ∀ y ∈ out.drop at', y ≤ x := by
      rcases hlt with h | h
      · rw [List.drop_of_length_le (by omega)]
        intro y hy
        cases hy
      · by_cases hl : at' < out.length
        · rw [drop_cons hl] at h2 ⊢
          intro y hy
          rcases List.mem_cons.1 hy with rfl | hy
          · omega
          · have := (List.pairwise_cons.1 h2).1 y hy
            omega
        · rw [List.drop_of_length_le (by omega)]
          intro y hy
          cases hy
    have ht : ∀ y ∈ out.take at', x ≤ y := by
      intro y hy
      obtain ⟨j, hj, rfl⟩ := List.getElem_of_mem hy
      have hj' : j < at' := by rw [List.length_take] at hj; omega
      have := hge j hj'
      rw [List.getElem_take]
      rw [List.getD_eq_getElem?_getD, List.getElem?_eq_getElem (by omega)] at this
      exact this
    rw [List.pairwise_append]
    refine ⟨h1, List.Pairwise.cons hd h2, ?_⟩
    intro a ha b hb
    rcases List.mem_cons.1 hb with rfl | hb
    · exact ht a ha
    · exact h3 a ha b hb
end Go.Proofs.Ytfecdpglcdhijaa
