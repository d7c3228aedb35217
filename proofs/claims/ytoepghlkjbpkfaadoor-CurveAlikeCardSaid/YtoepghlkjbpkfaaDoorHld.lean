/- What a region that draws its order keeps. No condition. -/
import Derived.Test.YtoepghlkjbpkfaaDoorPtRow
import Derived.Deep.RegionHeld3
namespace Go.Proofs.YtoepghlkjbpkfaaDoor
open Go.RowKit
attribute [local go_sem] Oper.semAt_some

def BelF (B : Nat) (w W : World) : Prop := W.os = w.os ∧ W.tape = w.tape ∧ W.output = w.output ∧ w.heap.size ≤ W.heap.size ∧ ∀ k, k < B → W.heap[k]? = w.heap[k]?
theorem BelF.to {B : Nat} {w W : World} (h : BelF B w W) : Below B w W := ⟨h.1, h.2.1, h.2.2.1, h.2.2.2.1, h.2.2.2.2⟩
theorem BelF.of {B : Nat} {w W : World} (h : Below B w W) : BelF B w W := ⟨h.os, h.tape, h.output, h.size, h.block⟩
theorem BelF.next {w W W' : World} (h : BelF w.heap.size w W) (hb : Below W.heap.size W W') : BelF w.heap.size w W' := BelF.of (h.to.trans (hb.mono h.to.size))
theorem BelF.drew {B : Nat} {w W : World} (h : BelF B w W) : BelF B w W.drew := h
theorem BelF.begin (w : World) : BelF w.heap.size w w := BelF.of (Below.refl _ _)
theorem drew_below (w : World) : Below w.heap.size w w.drew := Below.drew (Below.refl _ _)
/-- three cells of a block -/
def C3 (g : Nat) (x y z : Value) (w : World) : Prop := w.cell? ⟨g, 0, none⟩ = some x ∧ w.cell? ⟨g, 1, none⟩ = some y ∧ w.cell? ⟨g, 2, none⟩ = some z
theorem C3.new (W : World) (x y z : Value) (t : TypeId) : C3 W.heap.size x y z (W.alloc (.cells #[x, y, z] t)) := cell_three W x y z t
theorem C3.later {g : Nat} {x y z : Value} {w w' : World} (h : C3 g x y z w) (hb : Below w.heap.size w w') : C3 g x y z w' := ⟨cell_later h.1 hb, cell_later h.2.1 hb, cell_later h.2.2 hb⟩
theorem C3.below {B g : Nat} {x y z : Value} {w w' : World} (h : C3 g x y z w) (hg : g < B) (hb : Below B w w') : C3 g x y z w' :=
  ⟨(hb.cell (p := ⟨g, 0, none⟩) hg).trans h.1, (hb.cell (p := ⟨g, 1, none⟩) hg).trans h.2.1, (hb.cell (p := ⟨g, 2, none⟩) hg).trans h.2.2⟩
theorem C3.lt {g : Nat} {x y z : Value} {w : World} (h : C3 g x y z w) : g < w.heap.size := World.block_lt_of_cell? _ _ h.1
/-- three cells that can be written -/
def F3 (g : Nat) (w : World) : Prop := w.frozen? ⟨g, 0, none⟩ = false ∧ w.frozen? ⟨g, 1, none⟩ = false ∧ w.frozen? ⟨g, 2, none⟩ = false
theorem F3.new (W : World) (x y z : Value) (t : TypeId) : F3 W.heap.size (W.alloc (.cells #[x, y, z] t)) := by
  have h0 := heap_alloc_last W (.cells #[x, y, z] t)
  refine ⟨?_, ?_, ?_⟩ <;> (unfold World.frozen?; rw [h0]; simp)
theorem F3.below {B g : Nat} {w w' : World} (h : F3 g w) (hg : g < B) (hb : Below B w w') : F3 g w' :=
  ⟨(hb.frozen (p := ⟨g, 0, none⟩) hg).trans h.1, (hb.frozen (p := ⟨g, 1, none⟩) hg).trans h.2.1, (hb.frozen (p := ⟨g, 2, none⟩) hg).trans h.2.2⟩
theorem set3 {B g : Nat} {w w' : World} (hb : Below B w w') (hg : B ≤ g) (x y z : Value) : Below B w (((w'.setCell ⟨g, 0, none⟩ x).setCell ⟨g, 1, none⟩ y).setCell ⟨g, 2, none⟩ z) :=
  ((hb.setCell (p := ⟨g, 0, none⟩) hg _).setCell (p := ⟨g, 1, none⟩) hg _).setCell (p := ⟨g, 2, none⟩) hg _
/-- What holds of the world at hand is all that the rest needs. -/
theorem at_world {S G : World → Prop} {W : World} (h : S W) (k : ∀ W', S W' → G W') : G W := k W h
end Go.Proofs.YtoepghlkjbpkfaaDoor
