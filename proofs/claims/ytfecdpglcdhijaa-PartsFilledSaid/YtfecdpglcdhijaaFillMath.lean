/- The product of all hooks, plainly, is no less than 1 and no greater than the machine's greatest number, for all partitions of at most 20: checked by the kernel. No condition beyond those that each theorem names. -/
import Derived.Test.YtfecdpglcdhijaaHooks
namespace Go.Proofs.Ytfecdpglcdhijaa
open Go.RowKit

/-- All partitions of at most f into parts of at most p. -/
def chkW (P : List Int → Bool) : Nat → Nat → Nat → List Int → Bool
  | 0, _, _, acc => P acc.reverse
  | t + 1, p, f, acc => P acc.reverse && (List.range (min p f)).all fun i => chkW P t (i + 1) (f - (i + 1)) (((i + 1 : Nat) : Int) :: acc)
theorem chkW_spec (P : List Int → Bool) : ∀ (t p f : Nat) (acc xs : List Int), f ≤ t → chkW P t p f acc = true → okFrom p f xs = true → P (acc.reverse ++ xs) = true
  | 0, p, f, acc, [], _, h, _ => by rw [List.append_nil]; exact h
  | t + 1, p, f, acc, [], _, h, _ => by
    rw [List.append_nil]
    rw [chkW, Bool.and_eq_true] at h
    exact h.1
  | 0, p, f, acc, x :: r, hf, h, ho => by
    obtain ⟨h1, h2, h3, h4⟩ := okFrom_cons ho
    omega
  | t + 1, p, f, acc, x :: r, hf, h, ho => by
    obtain ⟨h1, h2, h3, h4⟩ := okFrom_cons ho
    rw [chkW, Bool.and_eq_true, List.all_eq_true] at h
    obtain ⟨i, hi⟩ : ∃ i : Nat, x = ((i + 1 : Nat) : Int) := ⟨x.toNat - 1, by omega⟩
    have := h.2 i (List.mem_range.2 (by omega))
    have ih := chkW_spec P t (i + 1) (f - (i + 1)) (((i + 1 : Nat) : Int) :: acc) r (by omega) this (by
      rw [← hi, show ((f - (i + 1) : Nat) : Int) = (f : Int) - x by omega]
      exact h4)
    rw [List.reverse_cons, List.append_assoc] at ih
    rw [hi]
    exact ih
theorem okFrom_less : ∀ (l : List Int) (p f p' f' : Int), okFrom p f l = true → (∀ y ∈ l, y ≤ p') → sumL l ≤ f' → okFrom p' f' l = true
  | [], _, _, _, _, _, _, _ => rfl
  | x :: r, p, f, p', f', h, hp, hs => by
    obtain ⟨h1, h2, h3, h4⟩ := okFrom_cons h
    have hr := okFrom_sum r x (f - x) (by omega) h4
    rw [sumL] at hs
    have hx := hp x (by simp)
    exact okFrom_mk h1 (by omega) hx (okFrom_less r x (f - x) x (f' - x) h4 (fun y hy => (okFrom_mem r x (f - x) h4 y hy).2.2) (by omega))
theorem mem_le_sum : ∀ {l : List Int}, (∀ y ∈ l, 1 ≤ y) → ∀ y ∈ l, y ≤ sumL l
  | [], _, y, hy => by cases hy
  | x :: r, h, y, hy => by
    have hr := sumL_nonneg (l := r) fun y hy => h y (by simp [hy])
    have hx := h x (by simp)
    rw [sumL]
    rcases List.mem_cons.1 hy with rfl | hy
    · omega
    · have := mem_le_sum (l := r) (fun y hy => h y (by simp [hy])) y hy
      omega

def factF : Nat → Int
  | 0 => 1
  | k + 1 => wrap64 (factF k * ((k : Int) + 1))
def mulF (p : Int) (row : List Int) : Int := row.foldl (fun p x => wrap64 (p * x)) p
def prodTo (L : List (List Int)) (i : Nat) : Int := (L.take i).foldl mulF 1
def prodF (l : List Int) : Int := prodTo (hooksL l) l.length
theorem mulF_take {p : Int} {row : List Int} {j : Nat} (h : j < row.length) : mulF p (row.take (j + 1)) = wrap64 (mulF p (row.take j) * row.getD j 0) := by
  rw [take_succ_getD h]
  simp [mulF, List.foldl_append]
theorem prodTo_succ {L : List (List Int)} {i : Nat} (h : i < L.length) : prodTo L (i + 1) = mulF (prodTo L i) (nthL L i) := by
  have : L.take (i + 1) = L.take i ++ [nthL L i] := by
    rw [List.take_add_one]
    simp [nthL, List.getD, h]
  rw [prodTo, this]
  simp [prodTo, List.foldl_append]
def factCheck : Bool := (List.range 21).all fun k => decide (0 ≤ factF k) && decide (factF k ≤ 9223372036854775807)
theorem factCheck_ok : factCheck = true := by decide +kernel
theorem fact_all {k : Nat} (h : k ≤ 20) : 0 ≤ factF k ∧ factF k ≤ 9223372036854775807 := by
  have := List.all_eq_true.1 factCheck_ok k (List.mem_range.2 (by omega))
  simpa using this
def prodOK (xs : List Int) : Bool := decide (1 ≤ prodF xs) && decide (prodF xs ≤ 9223372036854775807)
set_option maxRecDepth 100000 in
theorem prodCheck : chkW prodOK 20 20 20 [] = true := by decide +kernel
theorem prod_all {xs : List Int} (hP : isP xs = true) (hs : sumL xs ≤ 20) : 1 ≤ prodF xs ∧ prodF xs ≤ 9223372036854775807 := by
  have hm : ∀ y ∈ xs, y ≤ (20 : Int) := fun y hy => by
    have := mem_le_sum (fun y hy => (isP_mem hP hy).1) y hy
    omega
  have h := chkW_spec prodOK 20 20 20 [] xs (by omega) prodCheck (okFrom_less xs 30 30 20 20 hP hm hs)
  rw [List.reverse_nil, List.nil_append] at h
  simpa [prodOK] using h

end Go.Proofs.Ytfecdpglcdhijaa
