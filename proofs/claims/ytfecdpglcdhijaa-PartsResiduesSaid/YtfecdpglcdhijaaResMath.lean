/- Ranks and cranks by their residues: how many of each, over all partitions of the numbers that the law names: checked by the kernel; there are as many partitions as Count says. Condition: a sum of at most 20. -/
import Derived.Test.YtfecdpglcdhijaaEuler
import Derived.Test.YtfecdpglcdhijaaLawShapes
namespace Go.Proofs.Ytfecdpglcdhijaa
open Go.RowKit

def slotOf (F : List Int → Int) (m : Nat) (x : List Int) : Int := Int.tmod (Int.tmod (F x) m + m) m
def cntL (F : List Int → Int) (m : Nat) (L : List (List Int)) (i : Nat) : Int := ((L.countP fun x => slotOf F m x == (i : Int) : Nat) : Int)
theorem take_nth {L : List (List Int)} {k : Nat} (h : k < L.length) : L.take (k + 1) = L.take k ++ [nthL L k] := by
  rw [List.take_add_one, List.getElem?_eq_getElem h]
  simp [nthL, List.getD, List.getElem?_eq_getElem h]
theorem cntL_take {F : List Int → Int} {m : Nat} {L : List (List Int)} {k : Nat} (h : k < L.length) (i : Nat) : cntL F m (L.take (k + 1)) i = if slotOf F m (nthL L k) = (i : Int) then cntL F m (L.take k) i + 1 else cntL F m (L.take k) i := by
  unfold cntL
  rw [take_nth h, List.countP_append, List.countP_singleton]
  by_cases hs : slotOf F m (nthL L k) = (i : Int)
  · simp [hs]
  · simp [hs]
theorem cntL_bound (F : List Int → Int) (m : Nat) (L : List (List Int)) (k i : Nat) : 0 ≤ cntL F m (L.take k) i ∧ cntL F m (L.take k) i ≤ (L.length : Int) := by
  unfold cntL
  have h1 := List.countP_le_length (p := fun x => slotOf F m x == (i : Int)) (l := L.take k)
  rw [List.length_take] at h1
  omega
theorem tm_bounds (R : Int) {m : Nat} (hm : 0 < m) : -(m : Int) < Int.tmod R m ∧ Int.tmod R m < (m : Int) := by
  have hm' : (0 : Int) < (m : Int) := by omega
  rcases Int.le_total 0 R with h | h
  · rw [Int.tmod_eq_emod_of_nonneg h]
    have := Int.emod_nonneg R (b := (m : Int)) (by omega)
    have := Int.emod_lt_of_pos R hm'
    omega
  · obtain ⟨S, rfl⟩ : ∃ S, R = -S := ⟨-R, by omega⟩
    rw [Int.neg_tmod, Int.tmod_eq_emod_of_nonneg (by omega)]
    have := Int.emod_nonneg S (b := (m : Int)) (by omega)
    have := Int.emod_lt_of_pos S hm'
    omega
theorem slot_nat (F : List Int → Int) {m : Nat} (hm : 0 < m) (x : List Int) : ∃ i : Nat, i < m ∧ slotOf F m x = (i : Int) := by
  have h := tm_bounds (F x) hm
  have hm' : (0 : Int) < (m : Int) := by omega
  unfold slotOf
  rw [Int.tmod_eq_emod_of_nonneg (by omega)]
  have h1 := Int.emod_nonneg (Int.tmod (F x) m + m) (b := (m : Int)) (by omega)
  have h2 := Int.emod_lt_of_pos (Int.tmod (F x) m + m) hm'
  exact ⟨((Int.tmod (F x) m + m) % (m : Int)).toNat, by omega, by omega⟩

def residOK (n m : Nat) : Bool := (fun L => L.all isP && ((List.range m).all (fun i => cntL crankL m L i == cntL crankL m L 0) && (m != 5 || (List.range m).all fun i => cntL rankL m L i == cntL rankL m L 0))) (pF 20 n n)
def residCheck : Bool := (List.range 21).all fun n => (n % 5 != 4 || residOK n 5) && ((n % 7 != 5 || residOK n 7) && (n % 11 != 6 || residOK n 11))
set_option maxRecDepth 1000000 in
theorem residCheck_ok : residCheck = true := by decide +kernel
theorem resid_at {n : Nat} (hn : n ≤ 20) : (n % 5 != 4 || residOK n 5) = true ∧ (n % 7 != 5 || residOK n 7) = true ∧ (n % 11 != 6 || residOK n 11) = true := by
  have h := residCheck_ok
  unfold residCheck at h
  have h3 := List.all_eq_true.1 h n (List.mem_range.2 (by omega))
  simp only [Bool.and_eq_true] at h3
  exact h3
theorem residOK_spec {n m : Nat} (h : residOK n m = true) : (∀ l ∈ pF 20 n n, isP l = true) ∧ (∀ i, i < m → cntL crankL m (pF 20 n n) i = cntL crankL m (pF 20 n n) 0) ∧ (m = 5 → ∀ i, i < m → cntL rankL m (pF 20 n n) i = cntL rankL m (pF 20 n n) 0) := by
  unfold residOK at h
  simp only [Bool.and_eq_true, Bool.or_eq_true] at h
  obtain ⟨h1, h2, h3⟩ := h
  refine ⟨fun l hl => List.all_eq_true.1 h1 l hl, fun i hi => ?_, fun hm i hi => ?_⟩
  · exact beq_iff_eq.1 (List.all_eq_true.1 h2 i (List.mem_range.2 hi))
  · subst hm
    exact beq_iff_eq.1 (List.all_eq_true.1 (h3.resolve_left (by decide)) i (List.mem_range.2 hi))

def lenCheck : Bool := (fun R => (List.range 21).all fun n => (pF 20 n n).length == R.getD n 0) (rowN 20)
set_option maxRecDepth 1000000 in
theorem lenCheck_ok : lenCheck = true := by decide +kernel
theorem len_cnt {n : Nat} (hn : n ≤ 20) : cntF n n = ((pF 20 n n).length : Int) := by
  have h := lenCheck_ok
  unfold lenCheck at h
  have h1 := rowN_at 20 n (by omega) (by omega)
  obtain ⟨R, hR⟩ : ∃ R, rowN 20 = R := ⟨_, rfl⟩
  rw [hR] at h h1
  have h3 := List.all_eq_true.1 h n (List.mem_range.2 (by omega))
  rw [beq_iff_eq] at h3
  rw [h3, h1, ← cntF_stable n (20 - n), show n + (20 - n) = 20 by omega]

theorem CoState.later {g m : Nat} {f : Nat → Int} {w W W' : World} (h : CoState g m f w W) (hb : Below W.heap.size W W') : CoState g m f w W' := ⟨h.b.trans (hb.mono h.b.size), own_later h.own hb⟩
/-- A write into one row leaves the other. -/
theorem CoState.other {g g2 m m2 : Nat} {f f2 : Nat → Int} {w W : World} (h : CoState g m f w W) (h2 : CoState g2 m2 f2 w W) (hne : g2 ≠ g) (j : Nat) (v : Int) : CoState g m f w (W.setCell ⟨g2, j, none⟩ (.int .i64 v)) :=
  ⟨(h2.put j v).b, h.own.kept (h2.own.stored j (.int .i64 v)).2 (.inr fun e => hne (by cases e; rfl))⟩
end Go.Proofs.Ytfecdpglcdhijaa
