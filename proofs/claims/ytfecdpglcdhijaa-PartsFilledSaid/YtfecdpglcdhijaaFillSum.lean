/- What the law PartsFilled asks of the numbers of fillings, plainly: the chain of products, the corners. Checked in FillA to FillF. Condition: a partition of at most 20. -/
import Derived.Test.YtfecdpglcdhijaaFill
import Derived.Test.YtfecdpglcdhijaaTab
namespace Go.Proofs.Ytfecdpglcdhijaa
open Go.RowKit

def fillF (xs : List Int) : Int := factF (sumL xs).toNat / prodF xs
def chainRow (p : Int) : List Int → Bool
  | [] => true
  | x :: r => decide (1 ≤ x) && (decide (p ≤ Int.tdiv 4611686018427387904 x) && chainRow (wrap64 (p * x)) r)
def chainAll (p : Int) : List (List Int) → Bool
  | [] => true
  | r :: R => chainRow p r && chainAll (mulF p r) R
theorem chainRow_at : ∀ (row : List Int) (p : Int), chainRow p row = true → ∀ j, j < row.length → 1 ≤ row.getD j 0 ∧ mulF p (row.take j) ≤ Int.tdiv 4611686018427387904 (row.getD j 0)
  | [], _, _, j, hj => by simp at hj
  | x :: r, p, h, j, hj => by
    simp only [chainRow, Bool.and_eq_true, decide_eq_true_eq] at h
    obtain ⟨h1, h2, h3⟩ := h
    cases j with
    | zero => exact ⟨h1, h2⟩
    | succ j =>
      have := chainRow_at r (wrap64 (p * x)) h3 j (by simpa using hj)
      rw [List.getD_cons_succ, List.take_succ_cons]
      exact this
theorem chainAll_at : ∀ (H : List (List Int)) (p : Int), chainAll p H = true → ∀ i, i < H.length → chainRow ((H.take i).foldl mulF p) (nthL H i) = true
  | [], _, _, i, hi => by simp at hi
  | r :: R, p, h, i, hi => by
    simp only [chainAll, Bool.and_eq_true] at h
    cases i with
    | zero => exact h.1
    | succ i => exact chainAll_at R (mulF p r) h.2 i (by simpa using hi)
/-- The parts that can be made less by 1. -/
def corner (xs : List Int) (i : Nat) : Bool := !(decide (i + 1 < xs.length) && xs.getD (i + 1) 0 == xs.getD i 0)
def lessL (xs : List Int) (i : Nat) : List Int := if xs.getD i 0 - 1 = 0 then xs.take i else xs.set i (xs.getD i 0 - 1)
def sumTo (xs : List Int) : Nat → Int
  | 0 => 0
  | i + 1 => if corner xs i then wrap64 (sumTo xs i + fillF (lessL xs i)) else sumTo xs i
def filledOK (xs : List Int) : Bool := chainAll 1 (hooksL xs) && (Int.tmod (factF (sumL xs).toNat) (prodF xs) == 0 && ((xs.isEmpty || fillF xs == sumTo xs xs.length) && (List.range xs.length).all fun i => !corner xs i || (isP (lessL xs i) && decide (sumL (lessL xs i) ≤ 20))))
def sqTo (L : List (List Int)) : Nat → Int
  | 0 => 0
  | k + 1 => wrap64 (sqTo L k + wrap64 (fillF (nthL L k) * fillF (nthL L k)))
def squaresOK (n : Nat) : Bool := (fun L => L.foldl (fun s x => wrap64 (s + wrap64 (fillF x * fillF x))) 0 == factF n && L.all fun x => isP x && decide (sumL x ≤ 20)) (pF 20 n n)
/-- A part of the enumeration: the greatest part from s + 1 to s + len. -/
def chkPart (P : List Int → Bool) (s len : Nat) : Bool := (List.range len).all fun i => chkW P 19 (s + i + 1) (20 - (s + i + 1)) [((s + i + 1 : Nat) : Int)]
end Go.Proofs.Ytfecdpglcdhijaa
