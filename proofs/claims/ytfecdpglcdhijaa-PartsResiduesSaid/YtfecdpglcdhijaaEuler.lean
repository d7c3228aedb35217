/- Euler's numbers: Count follows from Counts of less, and Pentagonal is not 0 at them: by one list of numbers each, checked by the kernel. Condition: a sum of at most 400, at most 100. -/
import Derived.Test.YtfecdpglcdhijaaCount
namespace Go.Proofs.Ytfecdpglcdhijaa
open Go.RowKit

/-! Rows, all at once. -/
def chunkGo : Nat → Nat → List Nat → List Nat → List Nat
  | 0, _, _, _ => []
  | f + 1, p, prev, old =>
    match old with
    | [] => []
    | x :: r => List.zipWith Nat.add ((x :: r).take p) prev ++ chunkGo f p (List.zipWith Nat.add ((x :: r).take p) prev) ((x :: r).drop p)
def stepC (p : Nat) (old : List Nat) : List Nat := old.take p ++ chunkGo old.length p (old.take p) (old.drop p)
def rowN : Nat → List Nat
  | 0 => 1 :: List.replicate 400 0
  | p + 1 => stepC (p + 1) (rowN p)
def stepP (p : Nat) (old : List Int) : List Int := old.take p ++ List.zipWith (fun a b => wrap64 (a - b)) (old.drop p) old
def rowP : Nat → List Int
  | 0 => 1 :: List.replicate 100 0
  | p + 1 => stepP (p + 1) (rowP p)
theorem zw_at {α : Type} {z : α} (f : α → α → α) (a b : List α) {i : Nat} (h1 : i < a.length) (h2 : i < b.length) : (List.zipWith f a b).getD i z = f (a.getD i z) (b.getD i z) := by
  simp [List.getD, List.getElem?_zipWith, h1, h2]
theorem app_l {α : Type} {z : α} {a b : List α} {i : Nat} (h : i < a.length) : (a ++ b).getD i z = a.getD i z := by
  simp [List.getD, List.getElem?_append_left h]
theorem app_r {α : Type} {z : α} {a b : List α} {i : Nat} (h : a.length ≤ i) : (a ++ b).getD i z = b.getD (i - a.length) z := by
  simp [List.getD, List.getElem?_append_right h]
theorem take_at {α : Type} {z : α} {l : List α} {p i : Nat} (h : i < p) : (l.take p).getD i z = l.getD i z := by
  simp [List.getD, h]
theorem drop_at {α : Type} {z : α} {l : List α} {p i : Nat} : (l.drop p).getD i z = l.getD (p + i) z := by
  simp [List.getD]
theorem chunk_spec (p : Nat) (hp : 1 ≤ p) : ∀ (f : Nat) (prev old : List Nat), old.length ≤ f → (prev.length = p ∨ old = []) →
    (chunkGo f p prev old).length = old.length ∧ ∀ i, i < old.length → (chunkGo f p prev old).getD i 0 = old.getD i 0 + (if i < p then prev.getD i 0 else (chunkGo f p prev old).getD (i - p) 0)
  | 0, prev, old, h, _ => by
    have : old = [] := List.length_eq_zero_iff.1 (by omega)
    subst this
    exact ⟨rfl, fun i hi => by simp at hi⟩
  | f + 1, prev, [], h, _ => ⟨rfl, fun i hi => by simp at hi⟩
  | f + 1, prev, x :: r, h, hpr => by
    have hpl : prev.length = p := by
      rcases hpr with h | h
      · exact h
      · cases h
    generalize hold : x :: r = old at *
    obtain ⟨c, hc⟩ : ∃ c, List.zipWith Nat.add (old.take p) prev = c := ⟨_, rfl⟩
    have hcl : c.length = min p old.length := by rw [← hc, List.length_zipWith, List.length_take, hpl]; omega
    have e : chunkGo (f + 1) p prev old = c ++ chunkGo f p c (old.drop p) := by
      rw [← hc, ← hold]
      rfl
    have hol : 1 ≤ old.length := by rw [← hold]; simp
    obtain ⟨i1, i2⟩ := chunk_spec p hp f c (old.drop p) (by rw [List.length_drop]; omega) (by
      by_cases hlt : p < old.length
      · left; omega
      · right; exact List.drop_of_length_le (by omega))
    rw [e]
    rw [List.length_drop] at i1 i2
    refine ⟨by rw [List.length_append, hcl, i1]; omega, fun i hi => ?_⟩
    by_cases hip : i < p
    · rw [if_pos hip, app_l (by omega), ← hc, zw_at _ _ _ (by rw [List.length_take]; omega) (by omega), take_at hip]; rfl
    · rw [if_neg hip, app_r (by omega), show i - c.length = i - p by omega, i2 (i - p) (by omega), drop_at, show p + (i - p) = i by omega]
      by_cases hip2 : i - p < p
      · rw [if_pos hip2, app_l (by omega)]
      · rw [if_neg hip2, app_r (by omega), show i - p - c.length = i - p - p by omega]
theorem stepC_spec (p : Nat) (hp : 1 ≤ p) (old : List Nat) : (stepC p old).length = old.length ∧ ∀ s, s < old.length → (stepC p old).getD s 0 = if s < p then old.getD s 0 else old.getD s 0 + (stepC p old).getD (s - p) 0 := by
  obtain ⟨h1, h2⟩ := chunk_spec p hp old.length (old.take p) (old.drop p) (by rw [List.length_drop]; omega) (by
    by_cases hlt : p < old.length
    · left; rw [List.length_take]; omega
    · right; exact List.drop_of_length_le (by omega))
  rw [List.length_drop] at h1 h2
  unfold stepC
  have htl : (old.take p).length = min p old.length := List.length_take
  refine ⟨by rw [List.length_append, htl, h1]; omega, fun s hs => ?_⟩
  by_cases hsp : s < p
  · rw [if_pos hsp, app_l (by omega), take_at hsp]
  · rw [if_neg hsp, app_r (by omega), htl, show s - min p old.length = s - p by omega, h2 (s - p) (by omega), drop_at, show p + (s - p) = s by omega]
    by_cases hs2 : s - p < p
    · rw [if_pos hs2, app_l (by omega)]
    · rw [if_neg hs2, app_r (by omega), htl, show s - p - min p old.length = s - p - p by omega]
theorem rowN_len : ∀ p, (rowN p).length = 401
  | 0 => by rw [rowN, List.length_cons, List.length_replicate]
  | p + 1 => by rw [rowN, (stepC_spec (p + 1) (by omega) _).1, rowN_len p]
theorem rowN_step (p s : Nat) (hs : s ≤ 400) : (rowN (p + 1)).getD s 0 = if s < p + 1 then (rowN p).getD s 0 else (rowN p).getD s 0 + (rowN (p + 1)).getD (s - (p + 1)) 0 := by
  have hl := rowN_len p
  have h2 := (stepC_spec (p + 1) (by omega) (rowN p)).2 s (by omega)
  rw [rowN]
  exact h2
theorem rowN_mono (p s : Nat) (hs : s ≤ 400) : ∀ d, (rowN p).getD s 0 ≤ (rowN (p + d)).getD s 0
  | 0 => Nat.le_refl _
  | d + 1 => by
    have h := rowN_mono p s hs d
    have h2 := rowN_step (p + d) s hs
    rw [← Nat.add_assoc]
    split at h2 <;> omega
/-- All at once: the last row, the greatest number in it, and Euler's sums. -/
def rowI (R : List Nat) : List Int := R.map Int.ofNat
theorem rowP_len : ∀ p, (rowP p).length = 101
  | 0 => by rw [rowP, List.length_cons, List.length_replicate]
  | p + 1 => by
    have := rowP_len p
    rw [rowP, stepP, List.length_append, List.length_take, List.length_zipWith, List.length_drop]
    omega
theorem rowP_at : ∀ (p s : Nat), s ≤ 100 → (rowP p).getD s 0 = penF p s
  | 0, s, h => by
    rw [penF, rowP]
    cases s with
    | zero => rfl
    | succ s =>
      rw [List.getD_cons_succ, if_neg (by omega), List.getD_eq_getElem?_getD, List.getElem?_replicate]
      split <;> rfl
  | p + 1, s, h => by
    have hl := rowP_len p
    rw [rowP, stepP]
    have htl : ((rowP p).take (p + 1)).length = min (p + 1) 101 := by rw [List.length_take, hl]
    by_cases hs : s < p + 1
    · rw [app_l (by omega), take_at hs, penF_less hs, rowP_at p s h]
    · rw [app_r (by omega), htl, show s - min (p + 1) 101 = s - (p + 1) by omega, zw_at _ _ _ (by rw [List.length_drop]; omega) (by omega), drop_at, show p + 1 + (s - (p + 1)) = s by omega, rowP_at p s h, rowP_at p (s - (p + 1)) (by omega), penF_more (by omega)]
theorem cntF_stable (s : Nat) : ∀ d, cntF (s + d) s = cntF s s
  | 0 => rfl
  | d + 1 => by rw [← Nat.add_assoc, cntF_less (by omega), cntF_stable s d]
theorem penF_stable (s : Nat) : ∀ d, penF (s + d) s = penF s s
  | 0 => rfl
  | d + 1 => by rw [← Nat.add_assoc, penF_less (by omega), penF_stable s d]
theorem pen_row {s : Nat} (h : s ≤ 100) : penF s s = (rowP 100).getD s 0 := by
  rw [rowP_at 100 s h, ← penF_stable s (100 - s), show s + (100 - s) = 100 by omega]

/-! Euler's numbers. -/
def gA (j : Nat) : Nat := j * (3 * j - 1) / 2
def gB (j : Nat) : Nat := j * (3 * j + 1) / 2
def sgnJ (j : Nat) : Int := 2 * ((j : Int) % 2) - 1
/-- One number more, as the law adds it; R: the numbers of partitions. -/
def addG (R : List Int) (n j g : Nat) (s : Int) : Int := if n < g then s else wrap64 (s + wrap64 (R.getD (n - g) 0 * sgnJ j))
def accJ (R : List Int) (n : Nat) : Nat → Int
  | 0 => 0
  | j + 1 => addG R n (j + 1) (gB (j + 1)) (addG R n (j + 1) (gA (j + 1)) (accJ R n j))
def stepG (R : List Int) (j g : Nat) (old : List Int) : List Int := old.take g ++ List.zipWith (fun a b => wrap64 (a + wrap64 (b * sgnJ j))) (old.drop g) R
theorem stepG_spec {R old : List Int} (j g : Nat) (h1 : R.length = 401) (h2 : old.length = 401) : (stepG R j g old).length = 401 ∧ ∀ n, n ≤ 400 → (stepG R j g old).getD n 0 = addG R n j g (old.getD n 0) := by
  have htl : (old.take g).length = min g 401 := by rw [List.length_take, h2]
  unfold stepG addG
  refine ⟨by rw [List.length_append, htl, List.length_zipWith, List.length_drop]; omega, fun n hn => ?_⟩
  by_cases hs : n < g
  · rw [app_l (by omega), take_at hs, if_pos hs]
  · rw [app_r (by omega), htl, show n - min g 401 = n - g by omega, zw_at _ _ _ (by rw [List.length_drop]; omega) (by omega), drop_at, show g + (n - g) = n by omega, if_neg hs]
def accR (R : List Int) : Nat → List Int
  | 0 => List.replicate 401 0
  | j + 1 => stepG R (j + 1) (gB (j + 1)) (stepG R (j + 1) (gA (j + 1)) (accR R j))
theorem accR_spec {R : List Int} (h1 : R.length = 401) : ∀ j, (accR R j).length = 401 ∧ ∀ n, n ≤ 400 → (accR R j).getD n 0 = accJ R n j
  | 0 => ⟨List.length_replicate, fun n hn => by
      rw [accR, List.getD_eq_getElem?_getD, List.getElem?_replicate]
      split <;> rfl⟩
  | j + 1 => by
    obtain ⟨i1, i2⟩ := accR_spec h1 j
    obtain ⟨a1, a2⟩ := stepG_spec (j + 1) (gA (j + 1)) h1 i1
    obtain ⟨b1, b2⟩ := stepG_spec (j + 1) (gB (j + 1)) h1 a1
    refine ⟨b1, fun n hn => ?_⟩
    rw [accR, b2 n hn, a2 n hn, i2 n hn, accJ]
def eulerCheck : Bool := (fun R => R.all (fun x => Nat.ble x 9223372036854775807) && ((accR (rowI R) 16).tail == (rowI R).tail)) (rowN 400)
set_option maxRecDepth 1000000 in
theorem eulerCheck_ok : eulerCheck = true := by decide +kernel
theorem rowN_small {s : Nat} (hs : s ≤ 400) : (rowN 400).getD s 0 ≤ 9223372036854775807 := by
  have h := eulerCheck_ok
  unfold eulerCheck at h
  have hl := rowN_len 400
  obtain ⟨R, hR⟩ : ∃ R, rowN 400 = R := ⟨_, rfl⟩
  rw [hR] at h hl ⊢
  have h1 := List.all_eq_true.1 (Bool.and_eq_true_iff.1 h).1 (R.getD s 0) (by
    rw [List.getD_eq_getElem?_getD, List.getElem?_eq_getElem (by omega)]
    exact List.getElem_mem _)
  exact Nat.le_of_ble_eq_true h1
theorem wrap_in {n : Int} (h : 0 ≤ n ∧ n ≤ 9223372036854775807) : wrap64 n = n := by unfold wrap64; omega
theorem rowN_at : ∀ (p s : Nat), p ≤ 400 → s ≤ 400 → (((rowN p).getD s 0 : Nat) : Int) = cntF p s
  | 0, s, _, h => by
    rw [cntF_zero, rowN]
    cases s with
    | zero => rw [List.getD_cons_zero, if_pos rfl]; rfl
    | succ s =>
      rw [List.getD_cons_succ, if_neg (by omega), List.getD_eq_getElem?_getD, List.getElem?_replicate]
      split <;> rfl
  | p + 1, s, hp, h => by
    have h2 := rowN_step p s h
    have hm := rowN_mono (p + 1) s h (400 - (p + 1))
    rw [show p + 1 + (400 - (p + 1)) = 400 by omega] at hm
    have hb := rowN_small h
    have i1 := rowN_at p s (by omega) h
    by_cases hs : s < p + 1
    · rw [if_pos hs] at h2
      rw [h2, i1, cntF_less hs]
    · rw [if_neg hs] at h2
      have i2 := rowN_at (p + 1) (s - (p + 1)) hp (by omega)
      rw [cntF_more (by omega), ← i1, ← i2, h2]
      exact (wrap_in (by omega)).symm
termination_by p s => (p, s)
decreasing_by
  · exact Prod.Lex.left _ _ (by omega)
  · exact Prod.Lex.right _ (by omega)
theorem cnt_nat {s : Nat} (h : s ≤ 400) : cntF s s = (((rowN 400).getD s 0 : Nat) : Int) := by
  rw [rowN_at 400 s (by omega) h, ← cntF_stable s (400 - s), show s + (400 - s) = 400 by omega]
theorem cnt_row {s : Nat} (h : s ≤ 400) : cntF s s = (rowI (rowN 400)).getD s 0 := by
  have hl := rowN_len 400
  rw [cnt_nat h]
  obtain ⟨R, hR⟩ : ∃ R, rowN 400 = R := ⟨_, rfl⟩
  rw [hR] at hl ⊢
  simp [rowI, List.getD, List.getElem?_eq_getElem (show s < R.length by omega)]
theorem euler_acc {n : Nat} (h1 : 1 ≤ n) (hn : n ≤ 400) : accJ (rowI (rowN 400)) n 16 = (rowI (rowN 400)).getD n 0 := by
  have h := eulerCheck_ok
  unfold eulerCheck at h
  have hl := rowN_len 400
  obtain ⟨R, hR⟩ : ∃ R, rowN 400 = R := ⟨_, rfl⟩
  rw [hR] at h hl ⊢
  have h2 := (Bool.and_eq_true_iff.1 h).2
  rw [beq_iff_eq] at h2
  have hl2 : (rowI R).length = 401 := by rw [rowI, List.length_map, hl]
  rw [← (accR_spec hl2 16).2 n hn]
  have e : ∀ l : List Int, l.getD n 0 = l.tail.getD (n - 1) 0 := fun l => by
    obtain ⟨m, rfl⟩ : ∃ m, n = m + 1 := ⟨n - 1, by omega⟩
    cases l <;> simp [List.getD]
  rw [e, e, h2]
def pentaCheck : Bool := (fun R : List Int => (List.range 17).all fun j => j == 0 || ((decide (100 < gA j) || R.getD (gA j) 0 == 1 - 2 * ((j : Int) % 2)) && (decide (100 < gB j) || R.getD (gB j) 0 == 1 - 2 * ((j : Int) % 2)))) (rowP 100)
set_option maxRecDepth 1000000 in
theorem pentaCheck_ok : pentaCheck = true := by decide +kernel

def addN (n j g : Nat) (s : Int) : Int := if n < g then s else wrap64 (s + wrap64 (cntF (n - g) (n - g) * sgnJ j))
def accN (n : Nat) : Nat → Int
  | 0 => 0
  | j + 1 => addN n (j + 1) (gB (j + 1)) (addN n (j + 1) (gA (j + 1)) (accN n j))
theorem addN_row {n : Nat} (hn : n ≤ 400) (j g : Nat) (s : Int) : addN n j g s = addG (rowI (rowN 400)) n j g s := by
  unfold addN addG
  rw [cnt_row (s := n - g) (by omega)]
theorem accN_row {n : Nat} (hn : n ≤ 400) : ∀ k, accN n k = accJ (rowI (rowN 400)) n k
  | 0 => rfl
  | k + 1 => by
    show addN n (k + 1) (gB (k + 1)) (addN n (k + 1) (gA (k + 1)) (accN n k)) = addG (rowI (rowN 400)) n (k + 1) (gB (k + 1)) (addG (rowI (rowN 400)) n (k + 1) (gA (k + 1)) (accJ (rowI (rowN 400)) n k))
    rw [addN_row hn, addN_row hn, accN_row hn k]
theorem accN_all {n : Nat} (h1 : 1 ≤ n) (hn : n ≤ 400) : accN n 16 = cntF n n := by
  rw [accN_row hn, cnt_row hn]
  exact euler_acc h1 hn
theorem penta_A {j : Nat} (h1 : 1 ≤ j) (h2 : j ≤ 16) : (gA j ≤ 100 → penF (gA j) (gA j) = 1 - 2 * ((j : Int) % 2)) ∧ (gB j ≤ 100 → penF (gB j) (gB j) = 1 - 2 * ((j : Int) % 2)) := by
  have h := pentaCheck_ok
  unfold pentaCheck at h
  have ha : ∀ s, s ≤ 100 → penF s s = (rowP 100).getD s 0 := fun s h => pen_row h
  obtain ⟨R, hR⟩ : ∃ R, rowP 100 = R := ⟨_, rfl⟩
  rw [hR] at h ha
  have h3 := List.all_eq_true.1 h j (List.mem_range.2 (by omega))
  simp only [Bool.or_eq_true, Bool.and_eq_true, beq_iff_eq, decide_eq_true_eq] at h3
  obtain ⟨h4, h5⟩ := h3.resolve_left (by omega)
  exact ⟨fun hg => by rw [ha _ hg]; exact h4.resolve_left (by omega), fun hg => by rw [ha _ hg]; exact h5.resolve_left (by omega)⟩
theorem gA_eq (j : Nat) (h : j ≤ 17) (h1 : 1 ≤ j) : 0 ≤ (j : Int) * (3 * (j : Int) - 1) ∧ (j : Int) * (3 * (j : Int) - 1) ≤ 10000 ∧ Int.tdiv ((j : Int) * (3 * (j : Int) - 1)) 2 = ((gA j : Nat) : Int) ∧ gA j ≤ 5000 := by
  have : ∀ j : Fin 18, 1 ≤ j.val → 0 ≤ (j.val : Int) * (3 * (j.val : Int) - 1) ∧ (j.val : Int) * (3 * (j.val : Int) - 1) ≤ 10000 ∧ Int.tdiv ((j.val : Int) * (3 * (j.val : Int) - 1)) 2 = ((gA j.val : Nat) : Int) ∧ gA j.val ≤ 5000 := by decide
  exact this ⟨j, by omega⟩ h1
theorem gB_eq (j : Nat) (h : j ≤ 17) (h1 : 1 ≤ j) : 0 ≤ (j : Int) * (3 * (j : Int) + 1) ∧ (j : Int) * (3 * (j : Int) + 1) ≤ 10000 ∧ Int.tdiv ((j : Int) * (3 * (j : Int) + 1)) 2 = ((gB j : Nat) : Int) ∧ gB j ≤ 5000 ∧ gA j ≤ gB j := by
  have : ∀ j : Fin 18, 1 ≤ j.val → 0 ≤ (j.val : Int) * (3 * (j.val : Int) + 1) ∧ (j.val : Int) * (3 * (j.val : Int) + 1) ≤ 10000 ∧ Int.tdiv ((j.val : Int) * (3 * (j.val : Int) + 1)) 2 = ((gB j.val : Nat) : Int) ∧ gB j.val ≤ 5000 ∧ gA j.val ≤ gB j.val := by decide
  exact this ⟨j, by omega⟩ h1
theorem gA_mono (j : Nat) (h : j ≤ 16) : gA j ≤ gA (j + 1) := by
  have : ∀ j : Fin 17, gA j.val ≤ gA (j.val + 1) := by decide
  exact this ⟨j, by omega⟩
theorem gA_far : gA 17 = 425 := by decide
/-- From the first number that is too great on, nothing more is added. -/
theorem accN_stop {n j : Nat} (h1 : n < gA (j + 1)) : ∀ d, j + d ≤ 16 → accN n (j + d) = accN n j ∧ n < gA (j + d + 1)
  | 0, _ => ⟨rfl, h1⟩
  | d + 1, hd => by
    obtain ⟨i1, i2⟩ := accN_stop h1 d (by omega)
    have hm := gA_mono (j + d + 1) (by omega)
    have hb := (gB_eq (j + d + 1) (by omega) (by omega)).2.2.2.2
    refine ⟨?_, by rw [show j + (d + 1) + 1 = j + d + 1 + 1 by omega]; omega⟩
    rw [← i1]
    show addN n (j + d + 1) (gB (j + d + 1)) (addN n (j + d + 1) (gA (j + d + 1)) (accN n (j + d))) = accN n (j + d)
    rw [addN, if_pos (by omega), addN, if_pos i2]
theorem accN_end {n j : Nat} (h0 : 1 ≤ n) (hn : n ≤ 400) (hj : j ≤ 16) (h1 : n < gA (j + 1)) : accN n j = cntF n n := by
  rw [← accN_all h0 hn, show 16 = j + (16 - j) by omega, (accN_stop h1 (16 - j) (by omega)).1]

set_option maxHeartbeats 1000000 in
theorem Pentagonal_no (n : Int) (hn : n < 0 ∨ 100 < n) (w : World) :
    Calls Try.prog 43 #[.int .i64 n] w fun e w' => e = .returned (.tuple #[.int .i64 0, .int .i64 2]) ∧ w' = w := by
  by_cases h : n < 0
  · clear hn
    go_enter Try.func43, Try.ntmps43
    go_wp2
    go_ret2
    exact ⟨rfl, rfl⟩
  · have h2 : 100 < n := by omega
    clear hn
    go_enter Try.func43, Try.ntmps43
    go_wp2
    go_ret2
    exact ⟨rfl, rfl⟩
end Go.Proofs.Ytfecdpglcdhijaa
