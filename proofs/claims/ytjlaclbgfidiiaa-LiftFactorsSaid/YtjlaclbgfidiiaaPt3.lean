/- The walk of side. Conditions: the numbers are in range. -/
import Derived.Test.YtjlaclbgfidiiaaPt2
import Derived.Deep.RegionHeld3
import Derived.Deep.RegionLaw
namespace Go.Proofs.Ytjlaclbgfidiiaa
open Go.RowKit
attribute [local go_sem] Oper.semAt_some

theorem cell_four (W : World) (x y z u : Value) (t : TypeId) : (W.alloc (.cells #[x, y, z, u] t)).cell? ⟨W.heap.size, 0, none⟩ = some x ∧ (W.alloc (.cells #[x, y, z, u] t)).cell? ⟨W.heap.size, 1, none⟩ = some y ∧ (W.alloc (.cells #[x, y, z, u] t)).cell? ⟨W.heap.size, 2, none⟩ = some z ∧ (W.alloc (.cells #[x, y, z, u] t)).cell? ⟨W.heap.size, 3, none⟩ = some u := by
  refine ⟨?_, ?_, ?_, ?_⟩ <;> (unfold World.cell?; rw [heap_alloc_last]; rfl)
theorem frozen_later {w w' : World} {b o : Nat} (h : w.frozen? ⟨b, o, none⟩ = false) (hb : Below w.heap.size w w') (hl : b < w.heap.size) : w'.frozen? ⟨b, o, none⟩ = false :=
  (hb.frozen (p := ⟨b, o, none⟩) hl).trans h

/-- Below, as a conjunction that does not look at the draws. -/
def BelF (B : Nat) (w W : World) : Prop := W.os = w.os ∧ W.tape = w.tape ∧ W.output = w.output ∧ w.heap.size ≤ W.heap.size ∧ ∀ k, k < B → W.heap[k]? = w.heap[k]?
theorem BelF.to {B : Nat} {w W : World} (h : BelF B w W) : Below B w W := ⟨h.1, h.2.1, h.2.2.1, h.2.2.2.1, h.2.2.2.2⟩
theorem BelF.of {B : Nat} {w W : World} (h : Below B w W) : BelF B w W := ⟨h.os, h.tape, h.output, h.size, h.block⟩
/-- The value of a cell that is there. -/
def vAt (g o : Nat) (w : World) : Value := (w.cell? ⟨g, o, none⟩).getD undef
theorem vAt_of {g o : Nat} {w : World} {v : Value} (h : w.cell? ⟨g, o, none⟩ = some v) : w.cell? ⟨g, o, none⟩ = some (vAt g o w) := by
  unfold vAt; rw [h]; rfl
def SdH (g : Nat) (ai ao bi bo : Int) (w W : World) : Prop := W.cell? ⟨g, 0, none⟩ = some (.int .i64 ai) ∧ W.cell? ⟨g, 1, none⟩ = some (.int .i64 ao) ∧ W.cell? ⟨g + 1, 0, none⟩ = some (.int .i64 bi) ∧ W.cell? ⟨g + 1, 1, none⟩ = some (.int .i64 bo) ∧ W.cell? ⟨g + 1 + 1, 0, none⟩ = some (vAt (g + 1 + 1) 0 W) ∧ W.cell? ⟨g + 1 + 1, 1, none⟩ = some (vAt (g + 1 + 1) 1 W) ∧ W.cell? ⟨g + 1 + 1, 2, none⟩ = some (vAt (g + 1 + 1) 2 W) ∧ W.cell? ⟨g + 1 + 1, 3, none⟩ = some (vAt (g + 1 + 1) 3 W) ∧ W.frozen? ⟨g + 1 + 1, 0, none⟩ = false ∧ W.frozen? ⟨g + 1 + 1, 1, none⟩ = false ∧ W.frozen? ⟨g + 1 + 1, 2, none⟩ = false ∧ W.frozen? ⟨g + 1 + 1, 3, none⟩ = false ∧ g + 2 < W.heap.size ∧ BelF w.heap.size w W
theorem sdh_next {g : Nat} {ai ao bi bo : Int} {w W W' : World} (hb : Below W.heap.size W W') (h : SdH g ai ao bi bo w W) : SdH g ai ao bi bo w W' := by
  obtain ⟨k0, k1, k2, k3, r0, r1, r2, r3, z0, z1, z2, z3, hl, hB⟩ := h
  exact ⟨cell_later k0 hb, cell_later k1 hb, cell_later k2 hb, cell_later k3 hb, vAt_of (cell_later r0 hb), vAt_of (cell_later r1 hb), vAt_of (cell_later r2 hb), vAt_of (cell_later r3 hb), frozen_later z0 hb hl, frozen_later z1 hb hl, frozen_later z2 hb hl, frozen_later z3 hb hl, Nat.lt_of_lt_of_le hl hb.size, BelF.of (hB.to.trans (hb.mono hB.2.2.2.1))⟩
theorem sdh_set {g o : Nat} {ai ao bi bo : Int} {w W : World} (v : Value) (hg : w.heap.size = g) (ho : o < 4) (h : SdH g ai ao bi bo w W) : SdH g ai ao bi bo w (W.setCell ⟨g + 1 + 1, o, none⟩ v) := by
  obtain ⟨k0, k1, k2, k3, r0, r1, r2, r3, z0, z1, z2, z3, hl, hB⟩ := h
  have hc : ∀ j (u : Value), W.cell? ⟨g + 1 + 1, j, none⟩ = some u → (W.setCell ⟨g + 1 + 1, o, none⟩ v).cell? ⟨g + 1 + 1, j, none⟩ = some (vAt (g + 1 + 1) j (W.setCell ⟨g + 1 + 1, o, none⟩ v)) := fun j u hu => by
    by_cases e : j = o
    · subst e
      exact vAt_of (World.cell?_setCell_same' _ _ _ (by rw [hu]; rfl))
    · exact vAt_of ((World.cell?_setCell_other _ _ _ _ (by first | (simp; done) | (simp; omega))).trans hu)
  refine ⟨(World.cell?_setCell_other _ _ _ _ (by simp)).trans k0, (World.cell?_setCell_other _ _ _ _ (by simp)).trans k1, (World.cell?_setCell_other _ _ _ _ (by simp)).trans k2, (World.cell?_setCell_other _ _ _ _ (by simp)).trans k3, hc _ _ r0, hc _ _ r1, hc _ _ r2, hc _ _ r3, by rw [World.frozen?_setCell]; exact z0, by rw [World.frozen?_setCell]; exact z1, by rw [World.frozen?_setCell]; exact z2, by rw [World.frozen?_setCell]; exact z3, by simpa using hl, BelF.of (hB.to.setCell (by show w.heap.size ≤ g + 1 + 1; omega) _)⟩

set_option maxHeartbeats 16000000 in
set_option maxRecDepth 100000 in
theorem side_any (ai ao bi bo : Int) (ha : okP (ai, ao)) (hb : okP (bi, bo)) (hab : ai < bi) (w : World) :
    Calls Try.prog 83 #[.agg #[.int .i64 ai, .int .i64 ao], .agg #[.int .i64 bi, .int .i64 bo]] w fun e w' => e = .returned (.agg #[.int .i64 ai, .int .i64 bi, .int .i64 (frN (bo - ao) (bi - ai)), .int .i64 (frD (bo - ao) (bi - ai))]) ∧ Below w.heap.size w w' := by
  obtain ⟨a1, a2, a3, a4⟩ := ha
  obtain ⟨b1, b2, b3, b4⟩ := hb
  simp only at a1 a2 a3 a4 b1 b2 b3 b4
  have hF := fun w => fraction_any (bo - ao) (bi - ai) (by omega) (by omega) (by omega) (by omega) w
  have hwr1 : IntKind.i64.wrap (bo - ao) = bo - ao := IntWalk.i64_in _ (by omega)
  have hwr2 : IntKind.i64.wrap (bi - ai) = bi - ai := IntWalk.i64_in _ (by omega)
  obtain ⟨N, hN⟩ : ∃ N, frN (bo - ao) (bi - ai) = N := ⟨_, rfl⟩
  obtain ⟨D, hD⟩ : ∃ D, frD (bo - ao) (bi - ai) = D := ⟨_, rfl⟩
  simp only [hN, hD] at hF
  rw [hN, hD]
  have HF := Lib.hid hF
  obtain ⟨g, hg⟩ : ∃ g, w.heap.size = g := ⟨_, rfl⟩
  obtain ⟨W, hW⟩ : ∃ W, (((w.alloc (.cells #[.int .i64 ai, .int .i64 ao] 103)).alloc (.cells #[.int .i64 bi, .int .i64 bo] 103)).alloc (.cells #[.int .i64 0, .int .i64 0, .int .i64 0, .int .i64 0] 69)) = W := ⟨_, rfl⟩
  have hs : W.heap.size = g + 3 := by rw [← hW, ← hg]; simp
  have q1 := cell_pair w (.int .i64 ai) (.int .i64 ao) 103
  have q2 := cell_pair (w.alloc (.cells #[.int .i64 ai, .int .i64 ao] 103)) (.int .i64 bi) (.int .i64 bo) 103
  have q3 := cell_four ((w.alloc (.cells #[.int .i64 ai, .int .i64 ao] 103)).alloc (.cells #[.int .i64 bi, .int .i64 bo] 103)) (.int .i64 0) (.int .i64 0) (.int .i64 0) (.int .i64 0) 69
  have z0 := frozen_new ((w.alloc (.cells #[.int .i64 ai, .int .i64 ao] 103)).alloc (.cells #[.int .i64 bi, .int .i64 bo] 103)) #[.int .i64 0, .int .i64 0, .int .i64 0, .int .i64 0] 0 (t := 69)
  have z1 := frozen_new ((w.alloc (.cells #[.int .i64 ai, .int .i64 ao] 103)).alloc (.cells #[.int .i64 bi, .int .i64 bo] 103)) #[.int .i64 0, .int .i64 0, .int .i64 0, .int .i64 0] 1 (t := 69)
  have z2 := frozen_new ((w.alloc (.cells #[.int .i64 ai, .int .i64 ao] 103)).alloc (.cells #[.int .i64 bi, .int .i64 bo] 103)) #[.int .i64 0, .int .i64 0, .int .i64 0, .int .i64 0] 2 (t := 69)
  have z3 := frozen_new ((w.alloc (.cells #[.int .i64 ai, .int .i64 ao] 103)).alloc (.cells #[.int .i64 bi, .int .i64 bo] 103)) #[.int .i64 0, .int .i64 0, .int .i64 0, .int .i64 0] 3 (t := 69)
  have k0 : W.cell? ⟨g, 0, none⟩ = some (.int .i64 ai) := by rw [← hW, ← hg]; exact Lib.cell?_alloc_some _ (Lib.cell?_alloc_some _ q1.1)
  have k1 : W.cell? ⟨g, 1, none⟩ = some (.int .i64 ao) := by rw [← hW, ← hg]; exact Lib.cell?_alloc_some _ (Lib.cell?_alloc_some _ q1.2)
  have e2 : (w.alloc (.cells #[.int .i64 ai, .int .i64 ao] 103)).heap.size = g + 1 := by rw [← hg]; simp
  have e3 : ((w.alloc (.cells #[.int .i64 ai, .int .i64 ao] 103)).alloc (.cells #[.int .i64 bi, .int .i64 bo] 103)).heap.size = g + 2 := by rw [← hg]; simp
  rw [e2] at q2
  rw [e3] at q3 z0 z1 z2 z3
  have k2 : W.cell? ⟨g + 1, 0, none⟩ = some (.int .i64 bi) := by rw [← hW]; exact Lib.cell?_alloc_some _ q2.1
  have k3 : W.cell? ⟨g + 1, 1, none⟩ = some (.int .i64 bo) := by rw [← hW]; exact Lib.cell?_alloc_some _ q2.2
  rw [hW] at q3 z0 z1 z2 z3
  obtain ⟨r0, r1, r2, r3⟩ := q3
  have HBW := Lib.hid (show Below w.heap.size w W from hW ▸ ((((Below.refl w.heap.size w).alloc (Nat.le_refl _) _).alloc (by simp) _).alloc (by simp; omega) _))
  have HS := Lib.hid hs
  have HG := Lib.hid hg
  clear q1 q2 hN hD hF hs e2 e3
  go_enter Try.func83, Try.ntmps83
  go_wp2_with fail
  clear hW hg
  have HC := Lib.hid (show SdH g ai ao bi bo w W from ⟨k0, k1, k2, k3, vAt_of r0, vAt_of r1, vAt_of r2, vAt_of r3, z0, z1, z2, z3, by rw [HS.out]; omega, BelF.of HBW.out⟩)
  clear k0 k1 k2 k3 r0 r1 r2 r3 z0 z1 z2 z3
  go_region_held3 (fun w' => w'.cell? ⟨g, 0, none⟩ = some (.int .i64 ai) ∧ w'.cell? ⟨g, 1, none⟩ = some (.int .i64 ao) ∧ w'.cell? ⟨g + 1, 0, none⟩ = some (.int .i64 bi) ∧ w'.cell? ⟨g + 1, 1, none⟩ = some (.int .i64 bo) ∧ w'.cell? ⟨g + 1 + 1, 0, none⟩ = some (vAt (g + 1 + 1) 0 w') ∧ w'.cell? ⟨g + 1 + 1, 1, none⟩ = some (vAt (g + 1 + 1) 1 w') ∧ w'.cell? ⟨g + 1 + 1, 2, none⟩ = some (vAt (g + 1 + 1) 2 w') ∧ w'.cell? ⟨g + 1 + 1, 3, none⟩ = some (vAt (g + 1 + 1) 3 w') ∧ w'.frozen? ⟨g + 1 + 1, 0, none⟩ = false ∧ w'.frozen? ⟨g + 1 + 1, 1, none⟩ = false ∧ w'.frozen? ⟨g + 1 + 1, 2, none⟩ = false ∧ w'.frozen? ⟨g + 1 + 1, 3, none⟩ = false ∧ g + 2 < w'.heap.size ∧ BelF w.heap.size w w')
    (first | exact HC.out | exact sdh_next (by assumption) (by assumption) | exact sdh_set _ HG.out (by omega) (sdh_set _ HG.out (by omega) (sdh_set _ HG.out (by omega) (sdh_set _ HG.out (by omega) (by assumption)))))
    ((go_at_call 90; refine (HF.out _).mono ?_; rintro e w1 ⟨rfl, hb⟩))
  have hS1 : SdH g ai ao bi bo w w1 := sdh_next hb HC.out
  have hw : w.heap.size = g := HG.out
  have hS2 := sdh_set (o := 3) (.int .i64 D) hw (by omega) (sdh_set (o := 2) (.int .i64 N) hw (by omega) (sdh_set (o := 1) (.int .i64 bi) hw (by omega) (sdh_set (o := 0) (.int .i64 ai) hw (by omega) hS1)))
  obtain ⟨-, -, -, -, r0, r1, r2, r3, -⟩ := hS1
  have c0 := World.cell?_setCell_same' w1 ⟨g + 1 + 1, 0, none⟩ (.int .i64 ai) (by rw [r0]; rfl)
  have c1 := World.cell?_setCell_same' (w1.setCell ⟨g + 1 + 1, 0, none⟩ (.int .i64 ai)) ⟨g + 1 + 1, 1, none⟩ (.int .i64 bi) (by rw [World.cell?_setCell_other _ _ _ _ (by simp), r1]; rfl)
  have c2 := World.cell?_setCell_same' ((w1.setCell ⟨g + 1 + 1, 0, none⟩ (.int .i64 ai)).setCell ⟨g + 1 + 1, 1, none⟩ (.int .i64 bi)) ⟨g + 1 + 1, 2, none⟩ (.int .i64 N) (by rw [World.cell?_setCell_other _ _ _ _ (by simp), World.cell?_setCell_other _ _ _ _ (by simp), r2]; rfl)
  have c3 := World.cell?_setCell_same' (((w1.setCell ⟨g + 1 + 1, 0, none⟩ (.int .i64 ai)).setCell ⟨g + 1 + 1, 1, none⟩ (.int .i64 bi)).setCell ⟨g + 1 + 1, 2, none⟩ (.int .i64 N)) ⟨g + 1 + 1, 3, none⟩ (.int .i64 D) (by rw [World.cell?_setCell_other _ _ _ _ (by simp), World.cell?_setCell_other _ _ _ _ (by simp), World.cell?_setCell_other _ _ _ _ (by simp), r3]; rfl)
  have c2' := (World.cell?_setCell_other (((w1.setCell ⟨g + 1 + 1, 0, none⟩ (.int .i64 ai)).setCell ⟨g + 1 + 1, 1, none⟩ (.int .i64 bi)).setCell ⟨g + 1 + 1, 2, none⟩ (.int .i64 N)) ⟨g + 1 + 1, 3, none⟩ ⟨g + 1 + 1, 2, none⟩ (.int .i64 D) (by simp)).trans c2
  have c1' := (World.cell?_setCell_other (((w1.setCell ⟨g + 1 + 1, 0, none⟩ (.int .i64 ai)).setCell ⟨g + 1 + 1, 1, none⟩ (.int .i64 bi)).setCell ⟨g + 1 + 1, 2, none⟩ (.int .i64 N)) ⟨g + 1 + 1, 3, none⟩ ⟨g + 1 + 1, 1, none⟩ (.int .i64 D) (by simp)).trans ((World.cell?_setCell_other ((w1.setCell ⟨g + 1 + 1, 0, none⟩ (.int .i64 ai)).setCell ⟨g + 1 + 1, 1, none⟩ (.int .i64 bi)) ⟨g + 1 + 1, 2, none⟩ ⟨g + 1 + 1, 1, none⟩ (.int .i64 N) (by simp)).trans c1)
  have c0' := (World.cell?_setCell_other (((w1.setCell ⟨g + 1 + 1, 0, none⟩ (.int .i64 ai)).setCell ⟨g + 1 + 1, 1, none⟩ (.int .i64 bi)).setCell ⟨g + 1 + 1, 2, none⟩ (.int .i64 N)) ⟨g + 1 + 1, 3, none⟩ ⟨g + 1 + 1, 0, none⟩ (.int .i64 D) (by simp)).trans ((World.cell?_setCell_other ((w1.setCell ⟨g + 1 + 1, 0, none⟩ (.int .i64 ai)).setCell ⟨g + 1 + 1, 1, none⟩ (.int .i64 bi)) ⟨g + 1 + 1, 2, none⟩ ⟨g + 1 + 1, 0, none⟩ (.int .i64 N) (by simp)).trans ((World.cell?_setCell_other (w1.setCell ⟨g + 1 + 1, 0, none⟩ (.int .i64 ai)) ⟨g + 1 + 1, 1, none⟩ ⟨g + 1 + 1, 0, none⟩ (.int .i64 bi) (by simp)).trans c0))
  obtain ⟨W2, hW2⟩ : ∃ W2, (((w1.setCell ⟨g + 1 + 1, 0, none⟩ (.int .i64 ai)).setCell ⟨g + 1 + 1, 1, none⟩ (.int .i64 bi)).setCell ⟨g + 1 + 1, 2, none⟩ (.int .i64 N)).setCell ⟨g + 1 + 1, 3, none⟩ (.int .i64 D) = W2 := ⟨_, rfl⟩
  rw [hW2] at c3 c2' c1' c0' hS2 ⊢
  have HB2 := Lib.hid hS2.2.2.2.2.2.2.2.2.2.2.2.2.2.to
  clear hS2 hW2 c0 c1 c2 r0 r1 r2 r3
  go_wp2
  exact bodyPost_ret (v := .agg #[.int .i64 ai, .int .i64 bi, .int .i64 N, .int .i64 D]) (by simp [results, Try.results83, go_sem, c0', c1', c2', c3]) rfl ⟨rfl, HB2.out⟩
end Go.Proofs.Ytjlaclbgfidiiaa
