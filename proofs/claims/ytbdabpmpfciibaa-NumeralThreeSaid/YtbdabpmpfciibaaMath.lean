/- Plain numbers for golden numerals: Fibonacci numbers, which lists are numerals, their values, the greedy numeral. No condition beyond those that each theorem names. -/
import Derived.WalkKit
namespace Go.Proofs.Ytbdabpmpfciibaa
open Go.RowKit

def fibP : Nat → Int × Int
  | 0 => (0, 1)
  | k + 1 => ((fibP k).2, (fibP k).1 + (fibP k).2)
/-- The Fibonacci numbers, 0 1 1 2 3 .. -/
def fibN (k : Nat) : Int := (fibP k).1
theorem fibN_rec (k : Nat) : fibN (k + 2) = fibN (k + 1) + fibN k := by
  show (fibP k).1 + (fibP k).2 = (fibP k).2 + (fibP k).1
  omega
theorem fibN_0 : fibN 0 = 0 := rfl
theorem fibN_1 : fibN 1 = 1 := rfl
theorem fibN_2 : fibN 2 = 1 := rfl
theorem fibN_pos : ∀ k, 0 ≤ fibN k ∧ 1 ≤ fibN (k + 1)
  | 0 => by rw [fibN_0, fibN_1]; omega
  | k + 1 => by
    have h1 := fibN_pos k
    have h2 : fibN (k + 1 + 1) = fibN (k + 1) + fibN k := fibN_rec k
    omega
theorem fibN_nonneg (k : Nat) : 0 ≤ fibN k := (fibN_pos k).1
theorem fibN_step (k : Nat) : fibN k ≤ fibN (k + 1) := by
  cases k with
  | zero => rw [fibN_0, fibN_1]; omega
  | succ k =>
    have h2 : fibN (k + 1 + 1) = fibN (k + 1) + fibN k := fibN_rec k
    have := fibN_nonneg k
    omega
theorem fibN_mono {a b : Nat} (h : a ≤ b) : fibN a ≤ fibN b := by
  induction h with
  | refl => omega
  | step _ ih => exact Int.le_trans ih (fibN_step _)
theorem fibN_le {a b : Nat} {x : Int} (h : a ≤ b) (hx : fibN b = x) : fibN a ≤ x := hx ▸ fibN_mono h
theorem fibN_60 : fibN 60 = 1548008755920 := by decide +kernel
theorem fibN_61 : fibN 61 = 2504730781961 := by decide +kernel
theorem fibN_71 : fibN 71 = 308061521170129 := by decide +kernel
theorem fibN_91 : fibN 91 = 4660046610375530309 := by decide +kernel

/-- The Fibonacci number at an index. -/
def fibI (k : Int) : Int := fibN k.toNat
theorem fibI_nat (k : Nat) : fibI (k : Int) = fibN k := by unfold fibI; rw [Int.toNat_natCast]
theorem fibI_nonneg (k : Int) : 0 ≤ fibI k := fibN_nonneg _
theorem fibI_pos {k : Int} (h : 1 ≤ k) : 1 ≤ fibI k := by
  obtain ⟨n, rfl⟩ : ∃ n : Nat, k = ((n + 1 : Nat) : Int) := ⟨k.toNat - 1, by omega⟩
  rw [fibI_nat]; exact (fibN_pos n).2
theorem fibI_mono {a b : Int} (h : a ≤ b) : fibI a ≤ fibI b := fibN_mono (by omega)
theorem fibI_rec {k : Int} (h : 0 ≤ k) : fibI (k + 2) = fibI (k + 1) + fibI k := by
  obtain ⟨n, rfl⟩ : ∃ n : Nat, k = (n : Int) := ⟨k.toNat, by omega⟩
  have := fibN_rec n
  rw [fibI_nat, show (n : Int) + 2 = ((n + 2 : Nat) : Int) by omega, show (n : Int) + 1 = ((n + 1 : Nat) : Int) by omega, fibI_nat, fibI_nat]
  exact this
theorem fibI_rec' {k : Int} (h : 2 ≤ k) : fibI k = fibI (k - 1) + fibI (k - 2) := by
  have := fibI_rec (k := k - 2) (by omega)
  rw [show k - 2 + 2 = k by omega, show k - 2 + 1 = k - 1 by omega] at this
  exact this
theorem fibI_lt {a b : Int} (h1 : 2 ≤ a) (h : a < b) : fibI a < fibI b := by
  have h2 := fibI_rec' (k := a + 1) (by omega)
  have h3 := fibI_mono (a := a + 1) (b := b) (by omega)
  have h4 := fibI_pos (k := a - 1) (by omega)
  rw [show a + 1 - 1 = a by omega, show a + 1 - 2 = a - 1 by omega] at h2
  omega

/-- A numeral whose indices are at most h. -/
def okN : Int → List Int → Bool
  | _, [] => true
  | h, k :: r => decide (2 ≤ k) && decide (k ≤ h) && okN (k - 2) r
def isN (l : List Int) : Bool := okN 60 l
theorem okN_cons {h k : Int} {r : List Int} (o : okN h (k :: r) = true) : 2 ≤ k ∧ k ≤ h ∧ okN (k - 2) r = true := by
  simp only [okN, Bool.and_eq_true, decide_eq_true_eq] at o
  exact ⟨o.1.1, o.1.2, o.2⟩
theorem okN_mk {h k : Int} {r : List Int} (h1 : 2 ≤ k) (h2 : k ≤ h) (o : okN (k - 2) r = true) : okN h (k :: r) = true := by
  simp only [okN, Bool.and_eq_true, decide_eq_true_eq]
  exact ⟨⟨h1, h2⟩, o⟩
theorem okN_no {h k : Int} {r : List Int} (o : k < 2 ∨ h < k) : okN h (k :: r) = false := by
  simp only [okN, Bool.and_eq_false_iff, decide_eq_false_iff_not]
  omega
theorem okN_yes {h k : Int} {r : List Int} (h1 : 2 ≤ k) (h2 : k ≤ h) : okN h (k :: r) = okN (k - 2) r := by
  simp [okN, h1, h2]
theorem okN_mono : ∀ (l : List Int) {h h' : Int}, h ≤ h' → okN h l = true → okN h' l = true
  | [], _, _, _, _ => rfl
  | k :: r, _, _, hh, o => by
    obtain ⟨h1, h2, h3⟩ := okN_cons o
    exact okN_mk h1 (by omega) h3
theorem okN_mem : ∀ (l : List Int) (h : Int), okN h l = true → ∀ x ∈ l, 2 ≤ x ∧ x ≤ h
  | [], _, _, x, hx => by cases hx
  | k :: r, h, o, x, hx => by
    obtain ⟨h1, h2, h3⟩ := okN_cons o
    rcases List.mem_cons.1 hx with rfl | hx
    · exact ⟨h1, h2⟩
    · have := okN_mem r _ h3 x hx; omega
theorem okN_nil {h : Int} {l : List Int} (hh : h < 2) (o : okN h l = true) : l = [] := by
  cases l with
  | nil => rfl
  | cons k r => obtain ⟨h1, h2, -⟩ := okN_cons o; omega
theorem okN_len : ∀ (l : List Int) (h : Int), 0 ≤ h → okN h l = true → 2 * (l.length : Int) ≤ h
  | [], _, hh, _ => by simpa using hh
  | k :: r, h, hh, o => by
    obtain ⟨h1, h2, h3⟩ := okN_cons o
    have := okN_len r (k - 2) (by omega) h3
    simp only [List.length_cons]
    omega
theorem isN_len {l : List Int} (h : isN l = true) : l.length ≤ 30 := by
  have := okN_len l 60 (by omega) h
  omega
theorem okN_take : ∀ (l : List Int) (h : Int) (j : Nat), okN h l = true → okN h (l.take j) = true
  | [], _, _, _ => by simp [okN]
  | _ :: _, _, 0, _ => by simp [okN]
  | k :: r, h, j + 1, o => by
    obtain ⟨h1, h2, h3⟩ := okN_cons o
    exact okN_mk h1 h2 (okN_take r _ j h3)
theorem isN_take (l : List Int) : isN (l.take 40) = isN l := by
  by_cases h : isN (l.take 40) = true
  · have h1 := isN_len h
    have h2 : l.take 40 = l := List.take_of_length_le (by rw [List.length_take] at h1; omega)
    rw [h2]
  · have h' : isN (l.take 40) = false := by simpa using h
    rw [h']
    by_cases g : isN l = true
    · exact absurd (okN_take l 60 40 g) h
    · simpa using Eq.symm (by simpa using g : isN l = false)
theorem isN_take_yes {l : List Int} (h : isN l = true) : l.take 40 = l := List.take_of_length_le (by have := isN_len h; omega)

/-- The sum of the Fibonacci numbers at the indices, each one raised by i. -/
def sumF (i : Int) : List Int → Int
  | [] => 0
  | k :: r => fibI (k + i) + sumF i r
def valL (l : List Int) : Int := sumF 0 l
theorem sumF_nonneg (i : Int) : ∀ l, 0 ≤ sumF i l
  | [] => by simp [sumF]
  | k :: r => by
    have := sumF_nonneg i r
    have := fibI_nonneg (k + i)
    simp only [sumF]; omega
theorem sumF_append (i : Int) : ∀ a b, sumF i (a ++ b) = sumF i a + sumF i b
  | [], b => by simp [sumF]
  | x :: r, b => by simp only [List.cons_append, sumF, sumF_append i r b]; omega
theorem sumF_map (i j : Int) : ∀ l : List Int, sumF i (l.map fun x => x + j) = sumF (j + i) l
  | [] => rfl
  | x :: r => by simp only [List.map_cons, sumF, sumF_map i j r, Int.add_assoc]
theorem valL_cons (k : Int) (r : List Int) : valL (k :: r) = fibI k + valL r := by simp [valL, sumF]
theorem valL_nil : valL [] = 0 := rfl
theorem getD_mem {l : List Int} {j : Nat} (h : j < l.length) : l.getD j 0 ∈ l := by
  simp [List.getD, h]
theorem drop_cons {l : List Int} {j : Nat} (h : j < l.length) : l.drop j = l.getD j 0 :: l.drop (j + 1) := by
  rw [List.drop_eq_getElem_cons h]; simp [List.getD, h]
theorem take_succ_getD {l : List Int} {k : Nat} (h : k < l.length) : l.take (k + 1) = l.take k ++ [l.getD k 0] := by
  rw [List.take_add_one]; simp [List.getD, h]
theorem sumF_take {l : List Int} {k : Nat} (h : k < l.length) (i : Int) : sumF i (l.take (k + 1)) = sumF i (l.take k) + fibI (l.getD k 0 + i) := by
  rw [take_succ_getD h, sumF_append]
  simp [sumF]
theorem valL_take {l : List Int} {k : Nat} (h : k < l.length) : valL (l.take (k + 1)) = valL (l.take k) + fibI (l.getD k 0) := by
  have := sumF_take h 0
  rw [Int.add_zero] at this
  exact this

theorem valL_lt : ∀ (l : List Int) (h : Int), 0 ≤ h → okN h l = true → valL l < fibI (h + 1)
  | [], h, hh, _ => by
    have := fibI_pos (k := h + 1) (by omega)
    rw [valL_nil]; omega
  | k :: r, h, hh, o => by
    obtain ⟨h1, h2, h3⟩ := okN_cons o
    have ih := valL_lt r (k - 2) (by omega) h3
    have e := fibI_rec' (k := k + 1) (by omega)
    have m := fibI_mono (a := k + 1) (b := h + 1) (by omega)
    rw [show k + 1 - 1 = k by omega, show k + 1 - 2 = k - 1 by omega] at e
    rw [show k - 2 + 1 = k - 1 by omega] at ih
    rw [valL_cons]; omega
theorem isN_val {l : List Int} (h : isN l = true) : 0 ≤ valL l ∧ valL l < 2504730781961 := by
  have := valL_lt l 60 (by omega) h
  rw [show (60 : Int) + 1 = ((61 : Nat) : Int) by omega, fibI_nat, fibN_61] at this
  exact ⟨sumF_nonneg _ _, this⟩

/-- The numeral of n, the greedy one, from the index k + 1 on downward. -/
def encL : Nat → Int → List Int
  | 0, _ => []
  | k + 1, n => if fibN (k + 2) ≤ n then ((k + 2 : Nat) : Int) :: encL k (n - fibN (k + 2)) else encL k n
theorem encL_yes {k : Nat} {n : Int} (h : fibN (k + 2) ≤ n) : encL (k + 1) n = ((k + 2 : Nat) : Int) :: encL k (n - fibN (k + 2)) := by
  rw [encL, if_pos h]
theorem encL_no {k : Nat} {n : Int} (h : n < fibN (k + 2)) : encL (k + 1) n = encL k n := by
  rw [encL, if_neg (by omega)]
theorem encL_ok : ∀ (k : Nat) (n : Int), 0 ≤ n → n < fibN (k + 2) → okN ((k : Int) + 1) (encL k n) = true ∧ valL (encL k n) = n
  | 0, n, h0, h1 => by
    rw [fibN_2] at h1
    exact ⟨rfl, by rw [encL, valL_nil]; omega⟩
  | k + 1, n, h0, h1 => by
    have hr := fibN_rec (k + 1)
    by_cases h : fibN (k + 2) ≤ n
    · rw [encL_yes h, valL_cons, fibI_nat]
      cases k with
      | zero =>
        rw [encL, valL_nil]
        rw [show fibN (0 + 1 + 2) = 2 from rfl] at h1
        rw [show fibN (0 + 2) = 1 from rfl] at h ⊢
        exact ⟨okN_mk (by omega) (by omega) rfl, by omega⟩
      | succ k =>
        have hr2 := fibN_rec (k + 1)
        have hlt : n - fibN (k + 1 + 2) < fibN (k + 2) := by
          rw [show k + 1 + 1 + 2 = k + 4 by omega, show k + 1 + 1 + 1 = k + 3 by omega, show k + 1 + 1 = k + 2 by omega] at *
          omega
        obtain ⟨o, v⟩ := encL_ok k (n - fibN (k + 1 + 2)) (by omega) hlt
        rw [encL_no hlt, v]
        exact ⟨okN_mk (by omega) (by omega) (okN_mono _ (by omega) o), by omega⟩
    · obtain ⟨o, v⟩ := encL_ok k n h0 (by omega)
      rw [encL_no (by omega)]
      exact ⟨okN_mono _ (by omega) o, v⟩
theorem encL_val : ∀ (k : Nat) (l : List Int), okN ((k : Int) + 1) l = true → encL k (valL l) = l
  | 0, l, o => by rw [okN_nil (by omega) o, encL]
  | k + 1, l, o => by
    cases l with
    | nil =>
      have := (fibN_pos (k + 1)).2
      rw [valL_nil, encL_no (by rw [show k + 2 = k + 1 + 1 by omega]; omega)]
      have := encL_val k [] rfl
      rwa [valL_nil] at this
    | cons j r =>
      obtain ⟨h1, h2, h3⟩ := okN_cons o
      by_cases hj : j = (k : Int) + 2
      · have e : fibI j = fibN (k + 2) := by rw [hj, show (k : Int) + 2 = ((k + 2 : Nat) : Int) by omega, fibI_nat]
        have h0 := sumF_nonneg 0 r
        have hv : valL (j :: r) = fibN (k + 2) + valL r := by rw [valL_cons, e]
        rw [hv, encL_yes (by unfold valL; omega), show fibN (k + 2) + valL r - fibN (k + 2) = valL r by omega, encL_val k r (okN_mono _ (by omega) h3), hj]
        rfl
      · have o2 : okN ((k : Int) + 1) (j :: r) = true := okN_mk h1 (by omega) h3
        have := valL_lt _ _ (by omega) o2
        rw [show (k : Int) + 1 + 1 = ((k + 2 : Nat) : Int) by omega, fibI_nat] at this
        rw [encL_no this, encL_val k _ o2]
theorem encL_more : ∀ (d k : Nat) (n : Int), n < fibN (k + 2) → encL (k + d) n = encL k n
  | 0, _, _, _ => rfl
  | d + 1, k, n, h => by
    have : fibN (k + 2) ≤ fibN (k + d + 2) := fibN_mono (by omega)
    rw [← Nat.add_assoc, encL_no (by omega), encL_more d k n h]

/-- The numeral of a number. -/
def enc (n : Int) : List Int := encL 59 n
def isNum (n : Int) : Bool := decide (0 ≤ n) && decide (n ≤ 1000000000000)
theorem isNum_yes {n : Int} (h : isNum n = true) : 0 ≤ n ∧ n ≤ 1000000000000 := by
  simpa [isNum, Bool.and_eq_true] using h
theorem isNum_mk {n : Int} (h : 0 ≤ n) (h2 : n ≤ 1000000000000) : isNum n = true := by
  simp [isNum, h, h2]
theorem isNum_no {n : Int} (h : isNum n = false) : n < 0 ∨ 1000000000000 < n := by
  simp [isNum] at h
  omega
theorem enc_ok {n : Int} (h0 : 0 ≤ n) (h1 : n < 1548008755920) : okN 59 (enc n) = true ∧ valL (enc n) = n := by
  have := encL_ok 58 n h0 (by rw [fibN_60]; exact h1)
  have e : enc n = encL 58 n := encL_more 1 58 n (by rw [fibN_60]; exact h1)
  rw [e]
  exact this
theorem enc_more {n : Int} (h1 : n < 2504730781961) : encL 69 n = enc n := encL_more 10 59 n (by rw [fibN_61]; exact h1)
theorem enc_val {l : List Int} (h : isN l = true) : enc (valL l) = l := encL_val 59 l h
theorem enc_isN {n : Int} (h0 : 0 ≤ n) (h1 : n < 1548008755920) : isN (enc n) = true := okN_mono _ (by omega) (enc_ok h0 h1).1

/-- The order of lists, compared from the front. -/
def cmpL : List Int → List Int → Int
  | [], [] => 0
  | [], _ :: _ => -1
  | _ :: _, [] => 1
  | a :: r, b :: s => if a < b then -1 else if b < a then 1 else cmpL r s
theorem cmpL_lt : ∀ (a b : List Int) (h : Int), 0 ≤ h → okN h a = true → okN h b = true → (cmpL a b < 0 ↔ valL a < valL b)
  | [], [], _, _, _, _ => by simp [cmpL]
  | [], k :: r, _, _, _, o => by
    obtain ⟨h1, h2, h3⟩ := okN_cons o
    have := fibI_pos (k := k) (by omega)
    have := sumF_nonneg 0 r
    simp only [cmpL, valL_cons, valL_nil]
    unfold valL
    constructor <;> intro <;> omega
  | k :: r, [], _, _, o, _ => by
    have := sumF_nonneg 0 r
    have := fibI_nonneg k
    simp only [cmpL, valL_cons, valL_nil]
    unfold valL
    constructor <;> intro <;> omega
  | k :: r, j :: s, h, hh, o, p => by
    obtain ⟨h1, h2, h3⟩ := okN_cons o
    obtain ⟨g1, g2, g3⟩ := okN_cons p
    have hr := sumF_nonneg 0 r
    have hs := sumF_nonneg 0 s
    have vr := valL_lt r (k - 2) (by omega) h3
    have vs := valL_lt s (j - 2) (by omega) g3
    have ek := fibI_rec' (k := k + 1) (by omega)
    have ej := fibI_rec' (k := j + 1) (by omega)
    rw [show k + 1 - 1 = k by omega, show k + 1 - 2 = k - 1 by omega] at ek
    rw [show j + 1 - 1 = j by omega, show j + 1 - 2 = j - 1 by omega] at ej
    rw [show k - 2 + 1 = k - 1 by omega] at vr
    rw [show j - 2 + 1 = j - 1 by omega] at vs
    rw [valL_cons, valL_cons, cmpL]
    unfold valL at *
    by_cases hkj : k < j
    · have := fibI_mono (a := k + 1) (b := j) (by omega)
      rw [if_pos hkj]
      constructor <;> intro <;> omega
    · rw [if_neg hkj]
      by_cases hjk : j < k
      · have := fibI_mono (a := j + 1) (b := k) (by omega)
        rw [if_pos hjk]
        constructor <;> intro <;> omega
      · have e : j = k := by omega
        subst e
        rw [if_neg hjk]
        have := cmpL_lt r s (j - 2) (by omega) h3 g3
        unfold valL at this
        rw [this]
        constructor <;> intro <;> omega

/-- What total tells of indices: Fibonacci numbers from 60 on count as that of 60. -/
def capF : List Int → Int
  | [] => 0
  | k :: r => fibI (min k 60) + capF r
theorem capF_nonneg : ∀ l, 0 ≤ capF l
  | [] => by simp [capF]
  | k :: r => by
    have := capF_nonneg r
    have := fibI_nonneg (min k 60)
    simp only [capF]; omega
theorem capF_append : ∀ a b, capF (a ++ b) = capF a + capF b
  | [], b => by simp [capF]
  | x :: r, b => by simp only [List.cons_append, capF, capF_append r b]; omega
theorem capF_take {l : List Int} {k : Nat} (h : k < l.length) : capF (l.take (k + 1)) = capF (l.take k) + fibI (min (l.getD k 0) 60) := by
  rw [take_succ_getD h, capF_append]
  simp [capF]
theorem capF_le_take (l : List Int) (k : Nat) : capF (l.take k) ≤ capF l := by
  have := capF_append (l.take k) (l.drop k)
  rw [List.take_append_drop] at this
  have := capF_nonneg (l.drop k)
  omega
theorem fibI_60 : fibI 60 = 1548008755920 := fibN_60
theorem capF_small : ∀ l, capF l ≤ 1000000000000 → capF l = valL l
  | [], _ => rfl
  | k :: r, h => by
    have h0 := capF_nonneg r
    have h1 := fibI_nonneg (min k 60)
    simp only [capF] at h ⊢
    rw [valL_cons, capF_small r (by omega)]
    by_cases hk : k ≤ 60
    · rw [show min k 60 = k by omega]
    · rw [show min k 60 = 60 by omega, fibI_60] at h
      omega
theorem capF_le_val : ∀ l, capF l ≤ valL l
  | [] => by simp [capF, valL_nil]
  | k :: r => by
    have := capF_le_val r
    have := fibI_mono (a := min k 60) (b := k) (by omega)
    simp only [capF, valL_cons]
    omega
/-- The sum of indices' Fibonacci numbers, or the error's number where it is above 10^12. -/
def totV (l : List Int) : Int := if 1000000000000 < valL l then 0 else valL l
def totE (l : List Int) : Int := if 1000000000000 < valL l then 6 else 0
theorem tot_big {l : List Int} (h : 1000000000000 < capF l) : totV l = 0 ∧ totE l = 6 := by
  have := capF_le_val l
  unfold totV totE
  rw [if_pos (by omega), if_pos (by omega)]
  exact ⟨rfl, rfl⟩
theorem tot_small {l : List Int} (h : capF l ≤ 1000000000000) : totV l = capF l ∧ totE l = 0 := by
  have := capF_small l h
  unfold totV totE
  rw [← this, if_neg (by omega), if_neg (by omega)]
  exact ⟨rfl, rfl⟩
end Go.Proofs.Ytbdabpmpfciibaa
