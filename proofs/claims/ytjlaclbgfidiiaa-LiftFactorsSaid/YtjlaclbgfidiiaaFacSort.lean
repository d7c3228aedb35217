/- Rows of fractions under two stores. Condition: the slice lies in memory. -/
import Derived.Test.YtjlaclbgfidiiaaLawFac2
namespace Go.Proofs.Ytjlaclbgfidiiaa
open Go.RowKit
attribute [local go_sem] Oper.semAt_some

theorem slopes_len2 {f : List Int} {q : Nat} (hf : isPoly f = true) : (slopesF (polyS f q)).length ≤ 2000 := by
  obtain ⟨l2, l7, -⟩ := isPoly_spec hf
  obtain ⟨h1, h2⟩ := poly_ok (f := f) (q := q) (by omega)
  have := slP_len h2 _ (Nat.le_refl _)
  unfold slopesF
  omega
theorem fl_cons (p : Int × Int) (L : List (Int × Int)) : fl (p :: L) = .int .i64 p.1 :: .int .i64 p.2 :: fl L := by simp [fl]
theorem fl_set : ∀ (L : List (Int × Int)) (j : Nat) (x y : Int), ((fl L).set (j * 2) (.int .i64 x)).set (j * 2 + 1) (.int .i64 y) = fl (L.set j (x, y))
  | [], j, x, y => by simp [fl]
  | p :: t, 0, x, y => by simp [fl]
  | p :: t, j + 1, x, y => by
    rw [fl_cons, List.set_cons_succ, fl_cons, show (j + 1) * 2 = j * 2 + 1 + 1 by omega]
    rw [List.set_cons_succ, List.set_cons_succ, List.set_cons_succ, List.set_cons_succ, fl_set t j x y]
theorem RowF.put {B g c : Nat} {L : List (Int × Int)} {W : World} (h : RowF B (.slice (some ⟨g, 0, none⟩) L.length c) L W) (j : Nat) (x y : Int) :
    RowF B (.slice (some ⟨g, 0, none⟩) (L.set j (x, y)).length c) (L.set j (x, y)) ((W.setCell ⟨g, j * 2, none⟩ (.int .i64 x)).setCell ⟨g, j * 2 + 1, none⟩ (.int .i64 y)) := by
  have h1 := (World.ownsRow.stored h (j * 2) (.int .i64 x)).1
  have h2 := (World.ownsRow.stored h1 (j * 2 + 1) (.int .i64 y)).1
  rw [fl_set] at h2
  unfold RowF
  rw [List.length_set]
  exact h2
theorem RowF.swap1 {B g c N : Nat} {L : List (Int × Int)} {W : World} (hN : L.length = N) (h : RowF B (.slice (some ⟨g, 0, none⟩) N c) L W) (j : Nat) {x1 x2 y1 y2 : Int} (hx : nth L (j + 1) = (x1, x2)) (hy : nth L j = (y1, y2)) :
    RowF B (.slice (some ⟨g, 0, none⟩) N c) (swapL L (j + 1)) ((((W.setCell ⟨g, j * 2, none⟩ (.int .i64 x1)).setCell ⟨g, j * 2 + 1, none⟩ (.int .i64 x2)).setCell ⟨g, (j + 1) * 2, none⟩ (.int .i64 y1)).setCell ⟨g, (j + 1) * 2 + 1, none⟩ (.int .i64 y2)) := by
  subst hN
  have := (h.put j x1 x2).put (j + 1) y1 y2
  unfold swapL
  rw [Nat.add_sub_cancel, hx, hy]
  simpa using this
theorem RowF.swap2 {B g c N : Nat} {L : List (Int × Int)} {W : World} (hN : L.length = N) (h : RowF B (.slice (some ⟨g, 0, none⟩) N c) L W) (j : Nat) {x1 x2 y1 y2 : Int} (hx : nth L (j + 1) = (x1, x2)) (hy : nth L j = (y1, y2)) :
    RowF B (.slice (some ⟨g, 0, none⟩) N c) (swapL L (j + 1)) ((((W.setCell ⟨g, (j + 1) * 2, none⟩ (.int .i64 y1)).setCell ⟨g, (j + 1) * 2 + 1, none⟩ (.int .i64 y2)).setCell ⟨g, j * 2, none⟩ (.int .i64 x1)).setCell ⟨g, j * 2 + 1, none⟩ (.int .i64 x2)) := by
  subst hN
  have := (h.put (j + 1) y1 y2).put j x1 x2
  unfold swapL
  rw [Nat.add_sub_cancel, hx, hy, List.set_comm _ _ (by omega)]
  simpa using this
/-- The cells of two neighbours, and the world's old blocks. -/
def SwS (g j : Nat) (x1 x2 y1 y2 : Int) (w W : World) : Prop := W.cell? ⟨g, (j + 1) * 2, none⟩ = some (.int .i64 x1) ∧ W.cell? ⟨g, (j + 1) * 2 + 1, none⟩ = some (.int .i64 x2) ∧ W.cell? ⟨g, j * 2, none⟩ = some (.int .i64 y1) ∧ W.cell? ⟨g, j * 2 + 1, none⟩ = some (.int .i64 y2) ∧ g < W.heap.size ∧ BelF w.heap.size w W
theorem sws_next {g j : Nat} {x1 x2 y1 y2 : Int} {w W W' : World} (hb : Below W.heap.size W W') (h : SwS g j x1 x2 y1 y2 w W) : SwS g j x1 x2 y1 y2 w W' := by
  obtain ⟨k0, k1, k2, k3, hl, hB⟩ := h
  exact ⟨(hb.cell (p := ⟨g, (j + 1) * 2, none⟩) hl).trans k0, (hb.cell (p := ⟨g, (j + 1) * 2 + 1, none⟩) hl).trans k1, (hb.cell (p := ⟨g, j * 2, none⟩) hl).trans k2, (hb.cell (p := ⟨g, j * 2 + 1, none⟩) hl).trans k3, Nat.lt_of_lt_of_le hl hb.size, BelF.of (hB.to.trans (hb.mono hB.2.2.2.1))⟩
end Go.Proofs.Ytjlaclbgfidiiaa
