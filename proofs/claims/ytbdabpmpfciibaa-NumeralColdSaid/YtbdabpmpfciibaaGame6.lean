/- The walk of numeral.Move: the documented result, or the documented error. No condition. -/
import Derived.Test.YtbdabpmpfciibaaGame5
import Derived.Test.YtbdabpmpfciibaaPairs
namespace Go.Proofs.Ytbdabpmpfciibaa
open Go.RowKit
attribute [local go_sem] Oper.semAt_some

def moveV (a b : Int) : Int × Int := if isHp a b = true then (if isCold a b = true then (0, 0) else bestF a b) else (0, 0)
def moveE (a b : Int) : Int := if isHp a b = true then (if isCold a b = true then 4 else 0) else 2

/-- What Move hands back, out of the box. -/
theorem move_back (W : World) (g : Nat) (X Y R : Int) (a : Act) (h : W.heap[g]? = some (.cells #[.int .i64 X, .int .i64 Y] 46 (0, 0))) :
    ((loadVar 46 ⟨g, 0, none⟩).run Try.prog W).andThen (fun v w₂ => Result.ok (Value.tuple #[v, Value.int .i64 R]) w₂) = Result.ok (Value.tuple #[.agg #[.int .i64 X, .int .i64 Y], .int .i64 R]) W := by
  rw [run_loadVar_row W g 46 46 _ (0, 0) _ h Try.underlying46 rfl info46]
  rfl

set_option maxHeartbeats 8000000 in
set_option maxRecDepth 100000 in
theorem Move_any (a b : Int) (w : World) : Calls Try.prog 39 #[.int .i64 a, .int .i64 b] w fun e w' => e = .returned (.tuple #[.agg #[.int .i64 (moveV a b).1, .int .i64 (moveV a b).2], .int .i64 (moveE a b)]) ∧ Below w.heap.size w w' := by
  obtain ⟨g, hg⟩ : ∃ g, w.heap.size = g := ⟨_, rfl⟩
  obtain ⟨W, hW⟩ : ∃ W, (w.alloc (.cells #[.int .i64 0, .int .i64 0] 46)).alloc (.cells #[.int .i64 a, .int .i64 b] 72) = W := ⟨_, rfl⟩
  have hh := heap_alloc_last (w.alloc (.cells #[.int .i64 0, .int .i64 0] 46)) (.cells #[.int .i64 a, .int .i64 b] 72)
  rw [World.size_alloc, hW, hg] at hh
  have hc0 : W.cell? ⟨g + 1, 0, none⟩ = some (.int .i64 a) := by unfold World.cell?; rw [hh]; rfl
  have hc1 : W.cell? ⟨g + 1, 1, none⟩ = some (.int .i64 b) := by unfold World.cell?; rw [hh]; rfl
  have hbx := (Below.refl (w.alloc (.cells #[.int .i64 0, .int .i64 0] 46)).heap.size (w.alloc (.cells #[.int .i64 0, .int .i64 0] 46))).alloc (Nat.le_refl _) (.cells #[.int .i64 a, .int .i64 b] 72)
  have hr : W.heap[g]? = some (.cells #[.int .i64 0, .int .i64 0] 46 (0, 0)) := by
    rw [← hW, ← hg]
    exact (hbx.block _ (by simp)).trans (heap_alloc_last w _)
  have hBW : Below w.heap.size w W := hW ▸ (((Below.refl w.heap.size w).alloc (Nat.le_refl _) _).alloc (by simp) _)
  have hgl : g + 1 < W.heap.size := by rw [← hW, ← hg]; simp
  have HC := Lib.hid (And.intro hr (And.intro hBW (And.intro hgl hg)))
  clear hh hbx hr hBW hgl
  by_cases h : isHp a b = true
  · by_cases hcold : isCold a b = true
    · have h1 : moveV a b = (0, 0) := by unfold moveV; rw [if_pos h, if_pos hcold]
      have h2 : moveE a b = 4 := by unfold moveE; rw [if_pos h, if_pos hcold]
      rw [h1, h2]
      have HH := Lib.hid h
      have HD := Lib.hid hcold
      clear h hcold h1 h2
      go_enter Try.func39, Try.ntmps39
      go_wp2_with fail
      refine (valid_any a b _).mono ?_
      rintro e w1 ⟨rfl, hb⟩
      rw [HH.out]
      have d0 := (hb.cell (p := ⟨g + 1, 0, none⟩) HC.out.2.2.1).trans hc0
      have d1 := (hb.cell (p := ⟨g + 1, 1, none⟩) HC.out.2.2.1).trans hc1
      have dr := (hb.block g (Nat.lt_of_succ_lt HC.out.2.2.1)).trans HC.out.1
      have HB := Lib.hid (And.intro (HC.out.2.1.trans (hb.mono HC.out.2.1.size)) dr)
      clear hb dr hc0 hc1 hW
      go_wp2_with fail
      refine (cold_any a b _ HH.out).mono ?_
      rintro e w2 ⟨rfl, hb2⟩
      rw [HD.out]
      have HB2 := Lib.hid (And.intro (HB.out.1.trans (hb2.mono HB.out.1.size)) ((hb2.block g (Array.getElem?_eq_some_iff.1 HB.out.2).1).trans HB.out.2))
      clear hb2 d0 d1 HB
      go_wp2_with (refine wpList_store_row rfl 46 (.tmp 4) (.tmp 16) rfl g #[.int .i64 0, .int .i64 0] #[.int .i64 0, .int .i64 0] rfl rfl HB2.out.2 info46 rfl (one_pair _ _) ?_)
      refine bodyPost_ret (v := .tuple #[.agg #[.int .i64 0, .int .i64 0], .int .i64 4]) ?_ rfl ⟨rfl, below_setRow HB2.out.1 (by have := HC.out.2.2.2; omega) _⟩
      rw [results_cell_tmp (fn := Try.f39) Try.results39]
      exact move_back _ g 0 0 4 { tmps := #[], defers := [] } (setRow_heap w2 g _ _ 46 (0, 0) HB2.out.2)
    · have hc' : isCold a b = false := by simpa using hcold
      have h1 : moveV a b = bestF a b := by unfold moveV; rw [if_pos h, if_neg hcold]
      have h2 : moveE a b = 0 := by unfold moveE; rw [if_pos h, if_neg hcold]
      rw [h1, h2]
      have HH := Lib.hid h
      have HD := Lib.hid hc'
      have HBE := Lib.hid (fun w => best_any a b w h hc')
      obtain ⟨X, hX⟩ : ∃ X, (bestF a b).1 = X := ⟨_, rfl⟩
      obtain ⟨Y, hY⟩ : ∃ Y, (bestF a b).2 = Y := ⟨_, rfl⟩
      rw [hX, hY] at HBE ⊢
      clear h hcold hc' h1 h2 hX hY
      go_enter Try.func39, Try.ntmps39
      go_wp2_with fail
      refine (valid_any a b _).mono ?_
      rintro e w1 ⟨rfl, hb⟩
      rw [HH.out]
      have d0 := (hb.cell (p := ⟨g + 1, 0, none⟩) HC.out.2.2.1).trans hc0
      have d1 := (hb.cell (p := ⟨g + 1, 1, none⟩) HC.out.2.2.1).trans hc1
      have dr := (hb.block g (Nat.lt_of_succ_lt HC.out.2.2.1)).trans HC.out.1
      have dl := Nat.lt_of_lt_of_le HC.out.2.2.1 hb.size
      have HB := Lib.hid (And.intro (HC.out.2.1.trans (hb.mono HC.out.2.1.size)) (And.intro dr dl))
      clear hb dr dl hc0 hc1 hW
      go_wp2_with fail
      refine (cold_any a b _ HH.out).mono ?_
      rintro e w2 ⟨rfl, hb2⟩
      rw [HD.out]
      have e0 := (hb2.cell (p := ⟨g + 1, 0, none⟩) HB.out.2.2).trans d0
      have e1 := (hb2.cell (p := ⟨g + 1, 1, none⟩) HB.out.2.2).trans d1
      have HB2 := Lib.hid (And.intro (HB.out.1.trans (hb2.mono HB.out.1.size)) ((hb2.block g (Array.getElem?_eq_some_iff.1 HB.out.2.1).1).trans HB.out.2.1))
      clear hb2 d0 d1 HB
      go_wp2_with fail
      refine (HBE.out _).mono ?_
      rintro e w3 ⟨rfl, hb3⟩
      have HB3 := Lib.hid (And.intro (HB2.out.1.trans (hb3.mono HB2.out.1.size)) ((hb3.block g (Array.getElem?_eq_some_iff.1 HB2.out.2).1).trans HB2.out.2))
      clear hb3 e0 e1 HB2 HBE
      go_wp2_with (refine wpList_store_row rfl 46 (.tmp 4) (.tmp 18) rfl g #[.int .i64 X, .int .i64 Y] #[.int .i64 0, .int .i64 0] rfl rfl HB3.out.2 info46 rfl (one_pair _ _) ?_)
      refine bodyPost_ret (v := .tuple #[.agg #[.int .i64 X, .int .i64 Y], .int .i64 0]) ?_ rfl ⟨rfl, below_setRow HB3.out.1 (by have := HC.out.2.2.2; omega) _⟩
      rw [results_cell_tmp (fn := Try.f39) Try.results39]
      exact move_back _ g X Y 0 { tmps := #[], defers := [] } (setRow_heap w3 g _ _ 46 (0, 0) HB3.out.2)
  · have h' : isHp a b = false := by simpa using h
    have h1 : moveV a b = (0, 0) := by unfold moveV; rw [if_neg h]
    have h2 : moveE a b = 2 := by unfold moveE; rw [if_neg h]
    rw [h1, h2]
    have HH := Lib.hid h'
    clear h h' h1 h2
    go_enter Try.func39, Try.ntmps39
    go_wp2_with fail
    refine (valid_any a b _).mono ?_
    rintro e w1 ⟨rfl, hb⟩
    rw [HH.out]
    have HB2 := Lib.hid (And.intro (HC.out.2.1.trans (hb.mono HC.out.2.1.size)) ((hb.block g (Nat.lt_of_succ_lt HC.out.2.2.1)).trans HC.out.1))
    clear hb hc0 hc1 hW
    go_wp2_with (refine wpList_store_row rfl 46 (.tmp 4) (.tmp 13) rfl g #[.int .i64 0, .int .i64 0] #[.int .i64 0, .int .i64 0] rfl rfl HB2.out.2 info46 rfl (one_pair _ _) ?_)
    refine bodyPost_ret (v := .tuple #[.agg #[.int .i64 0, .int .i64 0], .int .i64 2]) ?_ rfl ⟨rfl, below_setRow HB2.out.1 (by have := HC.out.2.2.2; omega) _⟩
    rw [results_cell_tmp (fn := Try.f39) Try.results39]
    exact move_back _ g 0 0 2 { tmps := #[], defers := [] } (setRow_heap w1 g _ _ 46 (0, 0) HB2.out.2)
end Go.Proofs.Ytbdabpmpfciibaa
