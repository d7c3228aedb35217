/- Plain numbers: the denominators of a continued fraction, digits along it and their number. No condition beyond those that each theorem names. -/
import Derived.Test.YtbdabpmpfciibaaMath
namespace Go.Proofs.Ytbdabpmpfciibaa
open Go.RowKit

def denP (q : List Int) : Nat → Int × Int
  | 0 => (1, 0)
  | k + 1 => (q.getD k 0 * (denP q k).1 + (denP q k).2, (denP q k).1)
/-- The denominator with the index k, and the one before it. -/
def dN (q : List Int) (k : Nat) : Int := (denP q k).1
def dB (q : List Int) (k : Nat) : Int := (denP q k).2
theorem dN_0 (q : List Int) : dN q 0 = 1 := rfl
theorem dB_0 (q : List Int) : dB q 0 = 0 := rfl
theorem dN_succ (q : List Int) (k : Nat) : dN q (k + 1) = q.getD k 0 * dN q k + dB q k := rfl
theorem dB_succ (q : List Int) (k : Nat) : dB q (k + 1) = dN q k := rfl
/-- A continued fraction. -/
def isQ (q : List Int) : Bool := decide (1 ≤ q.length) && decide (q.length ≤ 10) && q.all fun x => decide (1 ≤ x) && decide (x ≤ 9)
theorem isQ_yes {q : List Int} (h : isQ q = true) : 1 ≤ q.length ∧ q.length ≤ 10 ∧ ∀ k, k < q.length → 1 ≤ q.getD k 0 ∧ q.getD k 0 ≤ 9 := by
  simp only [isQ, Bool.and_eq_true, decide_eq_true_eq, List.all_eq_true] at h
  exact ⟨h.1.1, h.1.2, fun k hk => h.2 _ (getD_mem hk)⟩
theorem isQ_mk {q : List Int} (h1 : 1 ≤ q.length) (h2 : q.length ≤ 10) (h : ∀ k, k < q.length → 1 ≤ q.getD k 0 ∧ q.getD k 0 ≤ 9) : isQ q = true := by
  simp only [isQ, Bool.and_eq_true, decide_eq_true_eq, List.all_eq_true]
  refine ⟨⟨h1, h2⟩, fun x hx => ?_⟩
  obtain ⟨k, hk, rfl⟩ := List.getElem_of_mem hx
  have := h k hk
  simpa [List.getD, hk] using this
theorem isQ_no_at {q : List Int} {k : Nat} (hk : k < q.length) (h : q.getD k 0 < 1 ∨ 9 < q.getD k 0) : isQ q = false := by
  cases hh : isQ q with
  | false => rfl
  | true => have := (isQ_yes hh).2.2 k hk; omega
theorem isQ_no_len {q : List Int} (h : q.length < 1 ∨ 10 < q.length) : isQ q = false := by
  cases hh : isQ q with
  | false => rfl
  | true => have := isQ_yes hh; omega
theorem isQ_take (q : List Int) : isQ (q.take 40) = isQ q := by
  by_cases h : q.length ≤ 40
  · rw [List.take_of_length_le h]
  · rw [isQ_no_len (q := q) (by omega), isQ_no_len (by rw [List.length_take]; omega)]
theorem isQ_take_yes {q : List Int} (h : isQ q = true) : q.take 40 = q := List.take_of_length_le (by have := isQ_yes h; omega)
theorem dN_pos {q : List Int} (h : isQ q = true) : ∀ k, k ≤ q.length → 1 ≤ dN q k ∧ 0 ≤ dB q k ∧ dB q k ≤ dN q k ∧ (1 ≤ k → 1 ≤ dB q k)
  | 0, _ => by rw [dN_0, dB_0]; omega
  | k + 1, hk => by
    obtain ⟨h1, h2, h3, -⟩ := dN_pos h k (by omega)
    have hq := (isQ_yes h).2.2 k (by omega)
    have hm : 1 * dN q k ≤ q.getD k 0 * dN q k := Int.mul_le_mul_of_nonneg_right hq.1 (by omega)
    rw [dN_succ, dB_succ]
    omega
def tenP : Nat → Int
  | 0 => 1
  | k + 1 => 10 * tenP k
theorem tenP_pos : ∀ k, 1 ≤ tenP k
  | 0 => by simp [tenP]
  | k + 1 => by have := tenP_pos k; simp only [tenP]; omega
theorem tenP_mono {a b : Nat} (h : a ≤ b) : tenP a ≤ tenP b := by
  induction h with
  | refl => omega
  | step _ ih =>
    rename_i m _
    have := tenP_pos m
    simp only [tenP]; omega
theorem dN_ten {q : List Int} (h : isQ q = true) : ∀ k, k ≤ q.length → dN q k ≤ tenP k
  | 0, _ => by rw [dN_0]; simp [tenP]
  | k + 1, hk => by
    have h1 := dN_ten h k (by omega)
    have h2 := dN_pos h k (by omega)
    have hq := (isQ_yes h).2.2 k (by omega)
    have hm : q.getD k 0 * dN q k ≤ 9 * dN q k := Int.mul_le_mul_of_nonneg_right hq.2 (by omega)
    rw [dN_succ]
    simp only [tenP]
    omega
theorem dN_le {q : List Int} (h : isQ q = true) {k : Nat} (hk : k ≤ q.length) : dN q k ≤ 10000000000 := by
  have h1 := dN_ten h k hk
  have h2 := tenP_mono (show k ≤ 10 by have := isQ_yes h; omega)
  have : tenP 10 = 10000000000 := by decide
  omega
/-- The list of the denominators up to the index k. -/
def denL (q : List Int) (k : Nat) : List Int := (List.range (k + 1)).map (dN q)
theorem denL_len (q : List Int) (k : Nat) : (denL q k).length = k + 1 := by simp [denL]
theorem denL_at {q : List Int} {k j : Nat} (h : j ≤ k) : (denL q k).getD j 0 = dN q j := by
  unfold denL
  rw [List.getD_eq_getElem?_getD, List.getElem?_map, List.getElem?_range (by omega)]
  rfl
theorem denL_succ (q : List Int) (k : Nat) : denL q (k + 1) = denL q k ++ [dN q (k + 1)] := by
  simp [denL, List.range_succ]
theorem denL_0 (q : List Int) : denL q 0 = [1] := by simp [denL, dN_0]

/-- What is left of n when t digits from the last one on are made. -/
def remN (q : List Int) (n : Int) : Nat → Int
  | 0 => n
  | t + 1 => remN q n t % dN q (q.length - 1 - t)
/-- The digit with the index k. -/
def dig (q : List Int) (n : Int) (k : Nat) : Int := remN q n (q.length - 1 - k) / dN q k
def digL (q : List Int) (n : Int) : List Int := (List.range q.length).map (dig q n)
theorem digL_len (q : List Int) (n : Int) : (digL q n).length = q.length := by simp [digL]
theorem digL_at {q : List Int} {n : Int} {k : Nat} (h : k < q.length) : (digL q n).getD k 0 = dig q n k := by
  unfold digL
  rw [List.getD_eq_getElem?_getD, List.getElem?_map, List.getElem?_range h]
  rfl
theorem remN_bd {q : List Int} (h : isQ q = true) {n : Int} (h0 : 0 ≤ n) (h1 : n < dN q q.length) : ∀ t, t ≤ q.length → 0 ≤ remN q n t ∧ remN q n t < dN q (q.length - t)
  | 0, _ => by rw [remN, Nat.sub_zero]; exact ⟨h0, h1⟩
  | t + 1, ht => by
    have hp := (dN_pos h (q.length - 1 - t) (by omega)).1
    rw [remN, show q.length - (t + 1) = q.length - 1 - t by omega]
    exact ⟨Int.emod_nonneg _ (by omega), Int.emod_lt_of_pos _ (by omega)⟩
theorem remN_nonneg {q : List Int} (h : isQ q = true) {n : Int} (h0 : 0 ≤ n) : ∀ t, t ≤ q.length → 0 ≤ remN q n t ∧ remN q n t ≤ n
  | 0, _ => by rw [remN]; omega
  | t + 1, ht => by
    have hp := (dN_pos h (q.length - 1 - t) (by omega)).1
    have ih := remN_nonneg h h0 t (by omega)
    have e := Int.emod_add_mul_ediv (remN q n t) (dN q (q.length - 1 - t))
    have d0 : 0 ≤ dN q (q.length - 1 - t) * (remN q n t / dN q (q.length - 1 - t)) := Int.mul_nonneg (by omega) (Int.ediv_nonneg ih.1 (by omega))
    rw [remN]
    exact ⟨Int.emod_nonneg _ (by omega), by omega⟩

/-- Whether c is a numeral along q. -/
def okA (q c : List Int) (k : Nat) : Bool := decide (0 ≤ c.getD k 0 ∧ c.getD k 0 ≤ q.getD k 0 ∧ (c.getD k 0 = q.getD k 0 → k ≠ 0 ∧ c.getD (k - 1) 0 = 0))
def isA (q c : List Int) : Bool := decide (c.length = q.length) && (List.range q.length).all (okA q c)
theorem isA_yes {q c : List Int} (h : isA q c = true) : c.length = q.length ∧ ∀ k, k < q.length → okA q c k = true := by
  simp only [isA, Bool.and_eq_true, decide_eq_true_eq, List.all_eq_true, List.mem_range] at h
  exact h
theorem isA_mk {q c : List Int} (h1 : c.length = q.length) (h : ∀ k, k < q.length → okA q c k = true) : isA q c = true := by
  simp only [isA, Bool.and_eq_true, decide_eq_true_eq, List.all_eq_true, List.mem_range]
  exact ⟨h1, h⟩
theorem isA_no_len {q c : List Int} (h : c.length ≠ q.length) : isA q c = false := by simp [isA, h]
theorem isA_no_at {q c : List Int} {k : Nat} (hk : k < q.length) (h : okA q c k = false) : isA q c = false := by
  cases hh : isA q c with
  | false => rfl
  | true => rw [(isA_yes hh).2 k hk] at h; cases h
theorem okA_iff {q c : List Int} {k : Nat} : okA q c k = true ↔ (0 ≤ c.getD k 0 ∧ c.getD k 0 ≤ q.getD k 0 ∧ (c.getD k 0 = q.getD k 0 → k ≠ 0 ∧ c.getD (k - 1) 0 = 0)) := by
  unfold okA
  exact decide_eq_true_iff
theorem okA_false {q c : List Int} {k : Nat} (h : ¬ (0 ≤ c.getD k 0 ∧ c.getD k 0 ≤ q.getD k 0 ∧ (c.getD k 0 = q.getD k 0 → k ≠ 0 ∧ c.getD (k - 1) 0 = 0))) : okA q c k = false := by
  cases hh : okA q c k with
  | false => rfl
  | true => exact absurd (okA_iff.1 hh) h
theorem isA_take {q c : List Int} (hq : isQ q = true) : isA q (c.take 40) = isA q c := by
  have := isQ_yes hq
  by_cases h : c.length ≤ 40
  · rw [List.take_of_length_le h]
  · rw [isA_no_len (q := q) (c := c) (by omega), isA_no_len (by rw [List.length_take]; omega)]
theorem isA_take_yes {q c : List Int} (hq : isQ q = true) (h : isA q c = true) : c.take 40 = c := List.take_of_length_le (by have := isQ_yes hq; have := (isA_yes h).1; omega)
/-- The number of the first k digits. -/
def numA (q c : List Int) : Nat → Int
  | 0 => 0
  | k + 1 => numA q c k + c.getD k 0 * dN q k
theorem numA_bd {q c : List Int} (hq : isQ q = true) (h : isA q c = true) : ∀ k, k ≤ q.length → 0 ≤ numA q c k ∧ numA q c k < dN q k ∧ (1 ≤ k → c.getD (k - 1) 0 = 0 → numA q c k < dB q k)
  | 0, _ => by rw [numA, dN_0]; omega
  | k + 1, hk => by
    obtain ⟨i1, i2, i3⟩ := numA_bd hq h k (by omega)
    have ho := okA_iff.1 ((isA_yes h).2 k (by omega))
    have hp := dN_pos hq k (by omega)
    have m0 : 0 ≤ c.getD k 0 * dN q k := Int.mul_nonneg ho.1 (by omega)
    rw [numA, dN_succ, dB_succ, Nat.add_sub_cancel]
    refine ⟨by omega, ?_, ?_⟩
    · by_cases he : c.getD k 0 = q.getD k 0
      · obtain ⟨g1, g2⟩ := ho.2.2 he
        have := i3 (by omega) g2
        rw [he]; omega
      · have hm : (c.getD k 0 + 1) * dN q k ≤ q.getD k 0 * dN q k := Int.mul_le_mul_of_nonneg_right (by omega) (by omega)
        rw [Int.add_mul, Int.one_mul] at hm
        omega
    · intro _ h0
      rw [h0, Int.zero_mul]
      omega
/-- Digits of the number of digits are these. -/
theorem remN_num {q c : List Int} (hq : isQ q = true) (h : isA q c = true) : ∀ t, t ≤ q.length → remN q (numA q c q.length) t = numA q c (q.length - t)
  | 0, _ => rfl
  | t + 1, ht => by
    have ih := remN_num hq h t (by omega)
    obtain ⟨k, hk⟩ : ∃ k, q.length - t = k + 1 := ⟨q.length - t - 1, by omega⟩
    have b := numA_bd hq h k (by omega)
    rw [remN, ih, hk, show q.length - 1 - t = k by omega, show q.length - (t + 1) = k by omega, numA, Int.add_mul_emod_self_right]
    exact Int.emod_eq_of_lt b.1 b.2.1
theorem dig_num {q c : List Int} (hq : isQ q = true) (h : isA q c = true) {k : Nat} (hk : k < q.length) : dig q (numA q c q.length) k = c.getD k 0 := by
  unfold dig
  have b := numA_bd hq h k (by omega)
  have hp := dN_pos hq k (by omega)
  rw [remN_num hq h _ (by omega), show q.length - (q.length - 1 - k) = k + 1 by omega, numA, Int.add_mul_ediv_right _ _ (by omega), Int.ediv_eq_zero_of_lt b.1 b.2.1]
  omega
theorem digL_num {q c : List Int} (hq : isQ q = true) (h : isA q c = true) : digL q (numA q c q.length) = c := by
  have hl := (isA_yes h).1
  apply List.ext_getElem
  · rw [digL_len, hl]
  · intro k h1 h2
    rw [digL_len] at h1
    have e := dig_num hq h h1
    simp [List.getD, h2] at e
    simp [digL, e]
/-- The number of digits is the number. -/
theorem numA_dig {q : List Int} (hq : isQ q = true) {n : Int} (h0 : 0 ≤ n) (h1 : n < dN q q.length) : ∀ k, k ≤ q.length → numA q (digL q n) k = remN q n (q.length - k)
  | 0, _ => by
    have := remN_bd hq h0 h1 q.length (by omega)
    rw [Nat.sub_self, dN_0] at this
    rw [numA, Nat.sub_zero]
    omega
  | k + 1, hk => by
    have ih := numA_dig hq h0 h1 k (by omega)
    rw [numA, ih, digL_at (by omega)]
    unfold dig
    have e : remN q n (q.length - k) = remN q n (q.length - 1 - k) % dN q k := by
      rw [show q.length - k = (q.length - 1 - k) + 1 by omega, remN, show q.length - 1 - (q.length - 1 - k) = k by omega]
    rw [e, show q.length - (k + 1) = q.length - 1 - k by omega, Int.mul_comm]
    exact Int.emod_add_mul_ediv _ _
theorem numA_dig_all {q : List Int} (hq : isQ q = true) {n : Int} (h0 : 0 ≤ n) (h1 : n < dN q q.length) : numA q (digL q n) q.length = n := by
  rw [numA_dig hq h0 h1 _ (Nat.le_refl _), Nat.sub_self, remN]
theorem digL_isA {q : List Int} (hq : isQ q = true) {n : Int} (h0 : 0 ≤ n) (h1 : n < dN q q.length) : isA q (digL q n) = true := by
  refine isA_mk (digL_len _ _) fun k hk => okA_iff.2 ?_
  have b := remN_bd hq h0 h1 (q.length - 1 - k) (by omega)
  rw [show q.length - (q.length - 1 - k) = k + 1 by omega, dN_succ] at b
  have hp := dN_pos hq k (by omega)
  rw [digL_at hk]
  have hd0 : 0 ≤ dig q n k := Int.ediv_nonneg b.1 (by omega)
  have hsp := Int.emod_add_mul_ediv (remN q n (q.length - 1 - k)) (dN q k)
  have hr0 := Int.emod_nonneg (remN q n (q.length - 1 - k)) (b := dN q k) (by omega)
  have hle : dig q n k ≤ q.getD k 0 := by
    apply Int.lt_add_one_iff.1
    apply Int.ediv_lt_of_lt_mul (by omega)
    rw [Int.add_mul, Int.one_mul]
    omega
  refine ⟨hd0, hle, fun he => ?_⟩
  have hd : dig q n k = remN q n (q.length - 1 - k) / dN q k := rfl
  rw [← hd, he, Int.mul_comm] at hsp
  have hrem : remN q n (q.length - 1 - k) % dN q k < dB q k := by omega
  cases k with
  | zero => rw [dB_0] at hrem; omega
  | succ j =>
    refine ⟨by omega, ?_⟩
    rw [Nat.add_sub_cancel, digL_at (by omega)]
    unfold dig
    rw [show q.length - 1 - j = (q.length - 1 - (j + 1)) + 1 by omega, remN, show q.length - 1 - (q.length - 1 - (j + 1)) = j + 1 by omega]
    rw [dB_succ] at hrem
    exact Int.ediv_eq_zero_of_lt hr0 hrem
end Go.Proofs.Ytbdabpmpfciibaa
