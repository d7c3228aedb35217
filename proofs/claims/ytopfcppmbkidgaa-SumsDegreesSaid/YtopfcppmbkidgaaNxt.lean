/- The walk of next at steps of the kinds 1 and 2. Condition: the step is one of a chain. -/
import Derived.Test.YtopfcppmbkidgaaStp
namespace Go.Proofs.Ytopfcppmbkidgaa
open Go.RowKit Go.Shelf
attribute [local go_sem] Oper.semAt_some

def vAt (b o : Nat) (w : World) : Value := (w.cell? ⟨b, o, none⟩).getD undef
theorem vAt_of {b o : Nat} {w : World} {v : Value} (h : w.cell? ⟨b, o, none⟩ = some v) : w.cell? ⟨b, o, none⟩ = some (vAt b o w) := by
  unfold vAt
  rw [h]; rfl
def BelF (B : Nat) (w W : World) : Prop := W.os = w.os ∧ W.tape = w.tape ∧ W.output = w.output ∧ w.heap.size ≤ W.heap.size ∧ ∀ k, k < B → W.heap[k]? = w.heap[k]?
theorem BelF.of {B : Nat} {w W : World} (h : Below B w W) : BelF B w W := ⟨h.os, h.tape, h.output, h.size, h.block⟩
theorem BelF.to {B : Nat} {w W : World} (h : BelF B w W) : Below B w W := ⟨h.1, h.2.1, h.2.2.1, h.2.2.2.1, h.2.2.2.2⟩
/-- While next works: the step in block P, another one in G. -/
def NX (w : World) (P G : Nat) (t : Stp) (W : World) : Prop := (∃ u, Sx W G u) ∧ Sx W P t ∧ BelF P w W
def NS (w : World) (P G : Nat) (t : Stp) (W : World) : Prop :=
  W.cell? ⟨P, 1, none⟩ = some (.int .i64 t.a) ∧ W.cell? ⟨P, 2, none⟩ = some (.int .i64 t.n) ∧ W.cell? ⟨P, 3, none⟩ = some (.int .i64 t.s) ∧
  W.cell? ⟨G, 0, none⟩ = some (vAt G 0 W) ∧ W.cell? ⟨G, 1, none⟩ = some (vAt G 1 W) ∧ W.cell? ⟨G, 2, none⟩ = some (vAt G 2 W) ∧ W.cell? ⟨G, 3, none⟩ = some (vAt G 3 W) ∧
  W.frozen? ⟨G, 0, none⟩ = false ∧ W.frozen? ⟨G, 1, none⟩ = false ∧ W.frozen? ⟨G, 2, none⟩ = false ∧ W.frozen? ⟨G, 3, none⟩ = false ∧ NX w P G t W
theorem NS.of {w : World} {P G : Nat} {t : Stp} {W : World} (h : NX w P G t W) : NS w P G t W := by
  obtain ⟨⟨u, hu⟩, hp, hb⟩ := h
  obtain ⟨-, p1, p2, p3, -⟩ := hp.cells
  obtain ⟨g0, g1, g2, g3, f0, f1, f2, f3⟩ := hu.cells
  exact ⟨p1, p2, p3, vAt_of g0, vAt_of g1, vAt_of g2, vAt_of g3, f0, f1, f2, f3, ⟨⟨u, hu⟩, hp, hb⟩⟩
theorem NS.x {w : World} {P G : Nat} {t : Stp} {W : World} (h : NS w P G t W) : NX w P G t W := h.2.2.2.2.2.2.2.2.2.2.2
theorem NX.drew {w : World} {P G : Nat} {t : Stp} {W : World} (h : NX w P G t W) : NX w P G t W.drew := by
  obtain ⟨⟨u, hu⟩, hp, hb⟩ := h
  exact ⟨⟨u, hu⟩, hp, hb⟩
theorem NS.drew {w : World} {P G : Nat} {t : Stp} {W : World} (h : NS w P G t W) : NS w P G t W.drew := NS.of h.x.drew
theorem NX.put {w : World} {P G : Nat} {t : Stp} {W : World} (h : NX w P G t W) (hP : P < G) (u : Stp) :
    Sx ((((W.setCell ⟨G, 0, none⟩ (.int .i64 u.k)).setCell ⟨G, 1, none⟩ (.int .i64 u.a)).setCell ⟨G, 2, none⟩ (.int .i64 u.n)).setCell ⟨G, 3, none⟩ (.int .i64 u.s)) G u ∧
    NX w P G t ((((W.setCell ⟨G, 0, none⟩ (.int .i64 u.k)).setCell ⟨G, 1, none⟩ (.int .i64 u.a)).setCell ⟨G, 2, none⟩ (.int .i64 u.n)).setCell ⟨G, 3, none⟩ (.int .i64 u.s)) := by
  obtain ⟨⟨v, hv⟩, hp, hb⟩ := h
  have hs := hv.put u
  have hB := sx_stores (W := W) (Nat.le_refl G) (.int .i64 u.k) (.int .i64 u.a) (.int .i64 u.n) (.int .i64 u.s)
  exact ⟨hs, ⟨_, hs⟩, hp.under hB hP, BelF.of (hb.to.trans (hB.mono (Nat.le_of_lt hP)))⟩
theorem NX.begins (w : World) (t : Stp) : NX w w.heap.size (w.heap.size + 1) t ((w.alloc (.cells #[.int .i64 t.k, .int .i64 t.a, .int .i64 t.n, .int .i64 t.s] 66)).alloc (.cells #[.int .i64 0, .int .i64 0, .int .i64 0, .int .i64 0] 66)) := by
  refine ⟨⟨⟨0, 0, 0, 0⟩, ?_⟩, (Sx.new w t).keep ((Below.refl _ _).alloc (Nat.le_refl _) _), BelF.of (((Below.refl _ _).alloc (Nat.le_refl _) _).alloc (by simp) _)⟩
  have := Sx.new (w.alloc (.cells #[.int .i64 t.k, .int .i64 t.a, .int .i64 t.n, .int .i64 t.s] 66)) ⟨0, 0, 0, 0⟩
  rw [World.size_alloc] at this
  exact this
theorem NX.bel {w : World} {P G : Nat} {t : Stp} {W : World} (h : NX w P G t W) : Below P w W := h.2.2.to
theorem NX.put' {w : World} {P G : Nat} {t : Stp} {W : World} (h : NX w P G t W) (hP : P < G) (x y z u : Int) :
    Sx ((((W.setCell ⟨G, 0, none⟩ (.int .i64 x)).setCell ⟨G, 1, none⟩ (.int .i64 y)).setCell ⟨G, 2, none⟩ (.int .i64 z)).setCell ⟨G, 3, none⟩ (.int .i64 u)) G ⟨x, y, z, u⟩ ∧
    Below P w ((((W.setCell ⟨G, 0, none⟩ (.int .i64 x)).setCell ⟨G, 1, none⟩ (.int .i64 y)).setCell ⟨G, 2, none⟩ (.int .i64 z)).setCell ⟨G, 3, none⟩ (.int .i64 u)) :=
  ⟨(h.put hP ⟨x, y, z, u⟩).1, (h.put hP ⟨x, y, z, u⟩).2.bel⟩

end Go.Proofs.Ytopfcppmbkidgaa
