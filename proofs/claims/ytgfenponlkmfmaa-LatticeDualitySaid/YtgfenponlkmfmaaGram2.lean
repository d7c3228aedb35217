/- The walks of gram and volume. Condition: the tables lie in memory, of rows of the same length. -/
import Derived.Test.YtgfenponlkmfmaaVec2
import Derived.Test.YtgfenponlkmfmaaGram
namespace Go.Proofs.Ytgfenponlkmfmaa
open Go.RowKit
attribute [local go_sem] Oper.semAt_some

theorem alt_mod {f g : Nat → Int} (M : Int) : ∀ (s : Int) (cs : List Nat), (∀ c ∈ cs, f c % M = g c % M) → alt s cs f % M = alt s cs g % M
  | _, [], _ => rfl
  | s, c :: cs, h => by
    unfold alt
    rw [Int.add_emod, Int.mul_emod, h c (by simp), ← Int.mul_emod, alt_mod M (-s) cs fun d hd => h d (by simp [hd]), ← Int.add_emod]
theorem lap_mod {e e' : Nat → Nat → Int} (M : Int) : ∀ (k i : Nat) (cols : List Nat), (∀ r c, i ≤ r → r < i + k → c ∈ cols → e r c % M = e' r c % M) → lap e k i cols % M = lap e' k i cols % M
  | 0, _, _, _ => rfl
  | k + 1, i, cols, h => by
    unfold lap
    refine alt_mod M 1 cols fun c hc => ?_
    rw [Int.mul_emod, h i c (Nat.le_refl _) (by omega) hc, lap_mod M k (i + 1) _ fun r d h1 h2 h3 => h r d (by omega) (by omega) (List.mem_filter.1 h3).1, ← Int.mul_emod]
theorem det_mod {n : Nat} {e e' : Nat → Nat → Int} (M : Int) (h : ∀ r c, r < n → c < n → e r c % M = e' r c % M) : det n e % M = det n e' % M :=
  lap_mod M n 0 _ fun r c _ h2 h3 => h r c (by omega) (List.mem_range.1 h3)
theorem w64_mod (a : Int) : wrap64 a % 18446744073709551616 = a % 18446744073709551616 := by rw [w64]; exact wrap_mod a
theorem w64_eq {a b : Int} (h : a % 18446744073709551616 = b % 18446744073709551616) : wrap64 a = wrap64 b := by
  rw [w64, w64]
  exact wrap_eq h
theorem w64_w64 (a : Int) : wrap64 (wrap64 a) = wrap64 a := w64_eq (w64_mod a)

/-- The products of the first k rows. -/
def prodL (d : Nat) (A B : List (List Int)) (m k : Nat) : List (List Int) := (List.range k).map fun i => (List.range m).map fun j => wrap64 (dot d (ent A i) (ent B j))
theorem prodL_row {d m k i : Nat} {A B : List (List Int)} (h : i < k) : row (prodL d A B m k) i = (List.range m).map fun j => wrap64 (dot d (ent A i) (ent B j)) := by
  unfold prodL
  exact row_map (List.getElem?_range h)
theorem prodL_det {d n : Nat} {A B : List (List Int)} : wrap64 (det n (ent (prodL d A B n n))) = wrap64 (det n fun i j => dot d (ent A i) (ent B j)) := by
  refine w64_eq (det_mod _ fun r c hr hc => ?_)
  unfold ent
  rw [prodL_row hr, List.getD_eq_getElem?_getD, List.getElem?_map, List.getElem?_range hc]
  exact w64_mod _

/-- A table of the call's own that is being filled: the outer row at block G, row q at block gs q, of m numbers Z q; those from i on are still nil. -/
structure Mat (w : World) (G n m : Nat) (gs : Nat → Nat) (Z : Nat → Nat → Int) (i : Nat) (W : World) : Prop where
  b : Below w.heap.size w W
  gt : w.heap.size ≤ G
  outer : W.ownsRow w.heap.size 35 1 (.slice (some ⟨G, 0, none⟩) n n) n ((List.range n).map fun q => if q < i then .slice (some ⟨gs q, 0, none⟩) m m else .slice none 0 0)
  rows : ∀ q, q < i → G < gs q ∧ gs q < W.heap.size ∧ W.ownsRow w.heap.size 3 1 (.slice (some ⟨gs q, 0, none⟩) m m) m ((List.range m).map fun j => Value.int .i64 (Z q j))
  inj : ∀ p q, p < i → q < i → p ≠ q → gs p ≠ gs q

section
variable {w W : World} {G n m i : Nat} {gs : Nat → Nat} {Z : Nat → Nat → Int}
theorem Mat.drew (h : Mat w G n m gs Z i W) : Mat w G n m gs Z i W.drew :=
  ⟨⟨h.b.os, h.b.tape, h.b.output, h.b.size, h.b.block⟩, h.gt, own_same h.outer (fun _ _ _ => rfl), fun q hq => ⟨(h.rows q hq).1, (h.rows q hq).2.1, own_same (h.rows q hq).2.2 (fun _ _ _ => rfl)⟩, h.inj⟩
theorem Mat.later {W' : World} (h : Mat w G n m gs Z i W) (hb : Below W.heap.size W W') : Mat w G n m gs Z i W' :=
  ⟨h.b.trans (hb.mono h.b.size), h.gt, own_later h.outer hb, fun q hq => ⟨(h.rows q hq).1, Nat.lt_of_lt_of_le (h.rows q hq).2.1 hb.size, own_later (h.rows q hq).2.2 hb⟩, h.inj⟩
theorem Mat.top (h : Mat w G n m gs Z i W) {q : Nat} (hq : q < n) : W.cell? ⟨G, q, none⟩ = some (if q < i then .slice (some ⟨gs q, 0, none⟩) m m else .slice none 0 0) := by
  rw [h.outer.cellAt q (by omega), List.getElem?_map, List.getElem?_range hq]
  rfl
theorem Mat.topFrozen (h : Mat w G n m gs Z i W) (q : Nat) : W.frozen? ⟨G, q, none⟩ = false := h.outer.frozenAt q
theorem Mat.cell (h : Mat w G n m gs Z i W) {q j : Nat} (hq : q < i) (hj : j < m) : W.cell? ⟨gs q, j, none⟩ = some (.int .i64 (Z q j)) := by
  rw [(h.rows q hq).2.2.cellAt j (by omega), List.getElem?_map, List.getElem?_range hj]
  rfl
theorem Mat.frozen (h : Mat w G n m gs Z i W) {q : Nat} (hq : q < i) (j : Nat) : W.frozen? ⟨gs q, j, none⟩ = false := (h.rows q hq).2.2.frozenAt j
theorem Mat.start {W : World} (hg : W.ownsRow w.heap.size 35 1 (.slice (some ⟨w.heap.size, 0, none⟩) n n) n (madeCells (Value.slice none 0 0).cells (n * 1)).toList) (hb : Below w.heap.size w W) (gs : Nat → Nat) (Z : Nat → Nat → Int) : Mat w w.heap.size n m gs Z 0 W := by
  refine ⟨hb, Nat.le_refl _, ?_, fun q hq => by omega, fun p q hp => by omega⟩
  have e : (madeCells (Value.slice none 0 0).cells (n * 1)).toList = (List.range n).map fun q => if q < 0 then Value.slice (some ⟨gs q, 0, none⟩) m m else .slice none 0 0 := by
    rw [Nat.mul_one, show (Value.slice none 0 0).cells = #[Value.slice none 0 0] from rfl, toList_madeCells_one]
    apply List.ext_getElem?
    intro i
    by_cases hi : i < n
    · simp [hi]
    · simp [hi]
  rw [← e]
  exact hg
theorem upd_row {α : Type} (f : Nat → α) (i q : Nat) (v : α) (h : q ≠ i) : (if q = i then v else f q) = f q := by rw [if_neg h]
/-- A row made, and stored at i. -/
theorem Mat.add {W1 : World} {g : Nat} {z : Nat → Int} (h : Mat w G n m gs Z i W) (hi : i < n) (hb : Below W.heap.size W W1) (hg : W.heap.size ≤ g) (hg2 : g < W1.heap.size)
    (ho : W1.ownsRow W.heap.size 3 1 (.slice (some ⟨g, 0, none⟩) m m) m ((List.range m).map fun j => Value.int .i64 (z j))) :
    Mat w G n m (fun q => if q = i then g else gs q) (fun q => if q = i then z else Z q) (i + 1) (W1.setCell ⟨G, i, none⟩ (.slice (some ⟨g, 0, none⟩) m m)) := by
  have hl := h.later hb
  have hG : G < W.heap.size := (h.outer.lt G rfl).2
  have keep : ∀ k, k ≠ G → (W1.setCell ⟨G, i, none⟩ (.slice (some ⟨g, 0, none⟩) m m)).heap[k]? = W1.heap[k]? := fun k hk => Below.heap_setCell W1 ⟨G, i, none⟩ _ k hk
  refine ⟨hl.b.setCell (p := ⟨G, i, none⟩) h.gt _, h.gt, ?_, fun q hq => ?_, fun p q hp hq hpq => ?_⟩
  · have := (hl.outer.stored i (.slice (some ⟨g, 0, none⟩) m m)).1
    rw [map_range_set] at this
    have e : (fun q => if q = i then Value.slice (some ⟨g, 0, none⟩) m m else if q < i then Value.slice (some ⟨gs q, 0, none⟩) m m else .slice none 0 0) = fun q => if q < i + 1 then Value.slice (some ⟨if q = i then g else gs q, 0, none⟩) m m else .slice none 0 0 := by
      funext q
      by_cases hq : q = i
      · subst hq
        simp
      · by_cases hq2 : q < i
        · have : q < i + 1 := by omega
          simp [hq, hq2, this]
        · have : ¬ q < i + 1 := by omega
          simp [hq, hq2, this]
    rw [e] at this
    exact this
  · by_cases hqi : q = i
    · subst hqi
      simp only [if_true]
      refine ⟨by omega, by simpa using hg2, own_mono (own_same ho fun k hk _ => keep k (by omega)) h.b.size⟩
    · obtain ⟨r1, r2, r3⟩ := hl.rows q (by omega)
      simp only [hqi, if_false]
      refine ⟨r1, by simpa using r2, ?_⟩
      refine ⟨r3.1, r3.2.imp id ?_⟩
      rintro ⟨g', cap, cur, e1, e2, e3, e4⟩
      cases e1
      exact ⟨_, _, cur, rfl, e2, (keep _ (by omega)).trans e3, e4⟩
  · by_cases hpi : p = i
    · subst hpi
      have hq2 := (h.rows q (by omega)).2.1
      simp only [if_true, if_neg (show ¬ q = p by omega)]
      omega
    · by_cases hqi : q = i
      · subst hqi
        have hp2 := (h.rows p (by omega)).2.1
        simp only [if_true, if_neg hpi]
        omega
      · simp only [hpi, hqi, if_false]
        exact h.inj p q (by omega) (by omega) hpq
/-- A number stored at row q, place j. -/
theorem Mat.put (h : Mat w G n m gs Z i W) {q : Nat} (hq : q < i) (j : Nat) (x : Int) : Mat w G n m gs (fun p k => if p = q ∧ k = j then x else Z p k) i (W.setCell ⟨gs q, j, none⟩ (.int .i64 x)) := by
  obtain ⟨r1, r2, r3⟩ := h.rows q hq
  have hgt := h.gt
  have keep : ∀ k, k ≠ gs q → (W.setCell ⟨gs q, j, none⟩ (.int .i64 x)).heap[k]? = W.heap[k]? := fun k hk => Below.heap_setCell W ⟨gs q, j, none⟩ _ k hk
  refine ⟨h.b.setCell (p := ⟨gs q, j, none⟩) (by show w.heap.size ≤ gs q; omega) _, h.gt, ?_, fun p hp => ?_, h.inj⟩
  · have ho := h.outer
    refine ⟨ho.1, ho.2.imp id ?_⟩
    rintro ⟨g', cap, cur, e1, e2, e3, e4⟩
    cases e1
    exact ⟨_, _, cur, rfl, e2, (keep _ (by omega)).trans e3, e4⟩
  · by_cases hpq : p = q
    · subst hpq
      refine ⟨r1, by simpa using r2, ?_⟩
      have := (r3.stored j (.int .i64 x)).1
      rw [map_range_set] at this
      have e : (fun k => if k = j then Value.int IntKind.i64 x else Value.int IntKind.i64 (Z p k)) = fun k => Value.int IntKind.i64 (if p = p ∧ k = j then x else Z p k) := by
        funext k
        by_cases hk : k = j
        · simp [hk]
        · simp [hk]
      rw [e] at this
      exact this
    · obtain ⟨s1, s2, s3⟩ := h.rows p hp
      refine ⟨s1, by simpa using s2, ?_⟩
      have e : (fun k => Value.int IntKind.i64 (if p = q ∧ k = j then x else Z p k)) = fun k => Value.int IntKind.i64 (Z p k) := by
        funext k
        simp [hpq]
      rw [e]
      refine ⟨s3.1, s3.2.imp id ?_⟩
      rintro ⟨g', cap, cur, e1, e2, e3, e4⟩
      cases e1
      exact ⟨_, _, cur, rfl, e2, (keep _ (h.inj p q hp hq hpq)).trans e3, e4⟩
theorem Mat.congr {Z' : Nat → Nat → Int} (h : Mat w G n m gs Z i W) (e : ∀ q j, q < i → j < m → Z q j = Z' q j) : Mat w G n m gs Z' i W := by
  refine ⟨h.b, h.gt, h.outer, fun q hq => ?_, h.inj⟩
  obtain ⟨s1, s2, s3⟩ := h.rows q hq
  refine ⟨s1, s2, ?_⟩
  have e2 : ((List.range m).map fun j => Value.int .i64 (Z q j)) = (List.range m).map fun j => Value.int .i64 (Z' q j) := List.map_congr_left fun j hj => by rw [e q j hq (List.mem_range.1 hj)]
  rw [← e2]
  exact s3
/-- The table as a list of lists. -/
def matL (n m : Nat) (Z : Nat → Nat → Int) : List (List Int) := (List.range n).map fun i => (List.range m).map (Z i)
theorem matL_len (n m : Nat) (Z : Nat → Nat → Int) : (matL n m Z).length = n := by simp [matL]
theorem matL_row {Z : Nat → Nat → Int} {i : Nat} (h : i < n) : row (matL n m Z) i = (List.range m).map (Z i) := by
  unfold matL
  exact row_map (List.getElem?_range h)
theorem matL_ent {Z : Nat → Nat → Int} {i j : Nat} (h : i < n) (hj : j < m) : ent (matL n m Z) i j = Z i j := by
  unfold ent
  rw [matL_row h, List.getD_eq_getElem?_getD, List.getElem?_map, List.getElem?_range hj]
  rfl
theorem Mat.tabO (h : Mat w G n m gs Z n W) : TabO W w.heap.size (.slice (some ⟨G, 0, none⟩) n n) (matL n m Z) := by
  refine ⟨_, by rw [matL_len]; exact h.outer, fun i hi => ?_⟩
  rw [matL_len] at hi
  obtain ⟨s1, s2, s3⟩ := h.rows i hi
  have hr : ((List.range m).map (Z i)).length = m := by simp
  have hrow : Row w.heap.size (.slice (some ⟨gs i, 0, none⟩) m m) ((List.range m).map (Z i)) W := by
    rw [show ((List.range m).map fun j => Value.int .i64 (Z i j)) = ((List.range m).map (Z i)).map (Value.int .i64) by rw [List.map_map]; rfl] at s3
    exact (Row.of s3).1
  obtain ⟨a, c, e, hl, hb⟩ := hrow.lies
  rw [hr] at e
  cases e
  refine ⟨some ⟨gs i, 0, none⟩, m, ?_, ?_, fun ad e => ?_⟩
  · rw [List.getElem?_map, List.getElem?_range hi, matL_row hi, hr]
    simp [hi]
  · rw [matL_row hi]
    exact hl
  · cases e
    exact ⟨s2, fun e => by have := Option.some.inj e; simp only at this; omega⟩
theorem Mat.tab (h : Mat w G n m gs Z n W) : Tab W (some ⟨G, 0, none⟩) n (matL n m Z) := by
  obtain ⟨a, c, e, ht, -⟩ := h.tabO.form
  rw [matL_len] at e ht
  cases e
  exact ht
end
end Go.Proofs.Ytgfenponlkmfmaa
