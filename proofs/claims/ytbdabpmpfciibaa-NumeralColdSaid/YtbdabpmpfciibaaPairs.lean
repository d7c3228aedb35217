/- The walks of numeral.Cold and Pair: the documented results, or the documented error. No condition. -/
import Derived.Test.YtbdabpmpfciibaaColds
import Derived.Laws.ResultCell
namespace Go.Proofs.Ytbdabpmpfciibaa
open Go.RowKit
attribute [local go_sem] Oper.semAt_some

def coldE (a b : Int) : Int := if isHp a b = true then 0 else 2
def coldV (a b : Int) : Bool := isHp a b && isCold a b

set_option maxHeartbeats 4000000 in
theorem Cold_any (a b : Int) (w : World) : Calls Try.prog 38 #[.int .i64 a, .int .i64 b] w fun e w' => e = .returned (.tuple #[.bool (coldV a b), .int .i64 (coldE a b)]) ∧ Below w.heap.size w w' := by
  obtain ⟨g, hg⟩ : ∃ g, w.heap.size = g := ⟨_, rfl⟩
  obtain ⟨W, hW⟩ : ∃ W, w.alloc (.cells #[.int .i64 a, .int .i64 b] 72) = W := ⟨_, rfl⟩
  have hc0 : W.cell? ⟨g, 0, none⟩ = some (.int .i64 a) := by rw [← hW, ← hg]; simp
  have hc1 : W.cell? ⟨g, 1, none⟩ = some (.int .i64 b) := by rw [← hW, ← hg]; simp
  have hBW : Below w.heap.size w W := hW ▸ (Below.refl w.heap.size w).alloc (Nat.le_refl _) _
  have hgl : g < W.heap.size := by rw [← hW, ← hg]; simp
  have HC := Lib.hid (And.intro hc0 (And.intro hc1 (And.intro hBW hgl)))
  by_cases h : isHp a b = true
  · have h1 : coldV a b = isCold a b := by unfold coldV; rw [h, Bool.true_and]
    have h2 : coldE a b = 0 := by unfold coldE; rw [if_pos h]
    rw [h1, h2]
    have HH := Lib.hid h
    obtain ⟨C, hC⟩ : ∃ C, isCold a b = C := ⟨_, rfl⟩
    rw [hC]
    have HCC := Lib.hid hC
    clear h h1 h2 hC hBW hgl
    go_enter Try.func38, Try.ntmps38
    go_wp2_with fail
    refine (valid_any a b _).mono ?_
    rintro e w1 ⟨rfl, hb⟩
    rw [HH.out]
    have d0 := (hb.cell (p := ⟨g, 0, none⟩) HC.out.2.2.2).trans HC.out.1
    have d1 := (hb.cell (p := ⟨g, 1, none⟩) HC.out.2.2.2).trans HC.out.2.1
    have HB := Lib.hid (HC.out.2.2.1.trans (hb.mono HC.out.2.2.1.size))
    clear hb
    go_wp2_with fail
    refine (cold_any a b _ HH.out).mono ?_
    rintro e w2 ⟨rfl, hb2⟩
    rw [HCC.out]
    have HB2 := Lib.hid (HB.out.trans (hb2.mono HB.out.size))
    clear hb2 d0 d1
    go_wp2
    go_ret2
    exact ⟨rfl, HB2.out⟩
  · have h' : isHp a b = false := by simpa using h
    have h1 : coldV a b = false := by unfold coldV; rw [h', Bool.false_and]
    have h2 : coldE a b = 2 := by unfold coldE; rw [if_neg h]
    rw [h1, h2]
    have HH := Lib.hid h'
    clear h h' h1 h2 hBW hgl
    go_enter Try.func38, Try.ntmps38
    go_wp2_with fail
    refine (valid_any a b _).mono ?_
    rintro e w1 ⟨rfl, hb⟩
    rw [HH.out]
    have HB := Lib.hid (HC.out.2.2.1.trans (hb.mono HC.out.2.2.1.size))
    clear hb
    go_wp2
    go_ret2
    exact ⟨rfl, HB.out⟩

/-- A box of two cells, laid at the start. -/
structure PX (w : World) (W : World) : Prop where
  b : Below w.heap.size w W
  h : W.heap[w.heap.size]? = some (.cells #[.int .i64 0, .int .i64 0] 46 (0, 0))
theorem PX.start (w : World) : PX w (w.alloc (.cells #[.int .i64 0, .int .i64 0] 46)) := ⟨(Below.refl _ _).alloc (Nat.le_refl _) _, heap_alloc_last w _⟩
theorem PX.later {w W W' : World} (h : PX w W) (hb : Below W.heap.size W W') : PX w W' :=
  ⟨h.b.trans (hb.mono h.b.size), (hb.block _ (Array.getElem?_eq_some_iff.1 h.h).1).trans h.h⟩

set_option maxHeartbeats 4000000 in
set_option maxRecDepth 100000 in
theorem Pair_yes (n : Int) (w : World) (h0 : 0 ≤ n) (h1 : n ≤ 100000) :
    Calls Try.prog 40 #[.int .i64 n] w fun e w' => e = .returned (.tuple #[.agg #[.int .i64 (coldA n), .int .i64 (coldA n + n)], .int .i64 0]) ∧ Below w.heap.size w w' := by
  have HC := Lib.hid (fun w => coldPair_any n w (by omega) (by omega))
  have hA : cpA n = coldA n := by unfold cpA; rw [if_neg (by omega)]
  have hB : cpB n = coldA n + n := by unfold cpB; rw [if_neg (by omega)]
  rw [hA, hB] at HC
  obtain ⟨A, hA2⟩ : ∃ A, coldA n = A := ⟨_, rfl⟩
  rw [hA2] at HC ⊢
  obtain ⟨B, hB2⟩ : ∃ B, A + n = B := ⟨_, rfl⟩
  rw [hB2] at HC ⊢
  have g0 : ¬ n < 0 := by omega
  have g1 : ¬ 100000 < n := by omega
  clear hA hB hA2 hB2
  go_enter Try.func40, Try.ntmps40
  go_wp2_with fail
  refine (HC.out _).mono ?_
  rintro e w1 ⟨rfl, hb⟩
  have HP := Lib.hid (PX.later (PX.start w) hb)
  clear hb
  go_wp2_with (refine wpList_store_row rfl 46 (.tmp 2) (.tmp 12) rfl w.heap.size #[.int .i64 A, .int .i64 B] #[.int .i64 0, .int .i64 0] rfl rfl HP.out.h info46 rfl (one_pair _ _) ?_)
  refine bodyPost_ret (v := .tuple #[.agg #[.int .i64 A, .int .i64 B], .int .i64 0]) ?_ rfl ⟨rfl, below_setRow HP.out.b (Nat.le_refl _) _⟩
  have hr := run_loadVar_row (P := Try.prog) (w1.setRow w.heap.size #[.int .i64 A, .int .i64 B]) w.heap.size 46 46 _ (0, 0) _ (setRow_heap w1 w.heap.size _ _ 46 (0, 0) HP.out.h) Try.underlying46 rfl info46
  rw [results_cell_tmp (fn := Try.f40) Try.results40]
  show ((loadVar 46 ⟨w.heap.size, 0, none⟩).run Try.prog (w1.setRow w.heap.size #[.int .i64 A, .int .i64 B])).andThen (fun v w₂ => Result.ok (Value.tuple #[v, Value.int .i64 0]) w₂) = _
  rw [hr]
  rfl

set_option maxHeartbeats 4000000 in
set_option maxRecDepth 100000 in
theorem Pair_no (n : Int) (w : World) (h : n < 0 ∨ 100000 < n) :
    Calls Try.prog 40 #[.int .i64 n] w fun e w' => e = .returned (.tuple #[.agg #[.int .i64 0, .int .i64 0], .int .i64 2]) ∧ Below w.heap.size w w' := by
  have hr := run_loadVar_row (P := Try.prog) (w.alloc (.cells #[.int .i64 0, .int .i64 0] 46)) w.heap.size 46 46 _ (0, 0) _ (PX.start w).h Try.underlying46 rfl info46
  have HR := Lib.hid hr
  clear hr
  by_cases h0 : n < 0
  · clear h
    go_enter Try.func40, Try.ntmps40
    go_wp2
    refine bodyPost_ret (v := .tuple #[.agg #[.int .i64 0, .int .i64 0], .int .i64 2]) ?_ rfl ⟨rfl, (PX.start w).b⟩
    rw [results_cell_tmp (fn := Try.f40) Try.results40]
    show ((loadVar 46 ⟨w.heap.size, 0, none⟩).run Try.prog (w.alloc (.cells #[.int .i64 0, .int .i64 0] 46))).andThen (fun v w₂ => Result.ok (Value.tuple #[v, Value.int .i64 2]) w₂) = _
    rw [HR.out]
    rfl
  · have h1 : 100000 < n := by omega
    clear h
    go_enter Try.func40, Try.ntmps40
    go_wp2
    refine bodyPost_ret (v := .tuple #[.agg #[.int .i64 0, .int .i64 0], .int .i64 2]) ?_ rfl ⟨rfl, (PX.start w).b⟩
    rw [results_cell_tmp (fn := Try.f40) Try.results40]
    show ((loadVar 46 ⟨w.heap.size, 0, none⟩).run Try.prog (w.alloc (.cells #[.int .i64 0, .int .i64 0] 46))).andThen (fun v w₂ => Result.ok (Value.tuple #[v, Value.int .i64 2]) w₂) = _
    rw [HR.out]
    rfl
end Go.Proofs.Ytbdabpmpfciibaa
