/- The walk of numeral.fibonacci: an array of 61 cells that holds the Fibonacci numbers. No condition. -/
import Derived.Test.YtbdabpmpfciibaaBase
import Derived.Laws.CopyOwn
namespace Go.Proofs.Ytbdabpmpfciibaa
open Go.RowKit
attribute [local go_sem] Oper.semAt_some

/-- The array, filled up to T. -/
def fibT (T j : Nat) : Int := if 2 ≤ j ∧ j < T then fibN j else 0
/-- A box of 61 cells of the call's own. -/
structure FS (g : Nat) (f : Nat → Int) (B : Nat) (W : World) : Prop where
  own : W.ownsRow B 88 1 (.slice (some ⟨g, 0, none⟩) 61 61) 61 ((List.range 61).map fun j => Value.int .i64 (f j))
theorem FS.cell {g B : Nat} {f : Nat → Int} {W : World} (h : FS g f B W) {j : Nat} (hj : j < 61) : W.cell? ⟨g, j, none⟩ = some (.int .i64 (f j)) := by
  rw [h.own.cellAt j (by omega), List.getElem?_map, List.getElem?_range hj]
  rfl
theorem FS.frozen {g B : Nat} {f : Nat → Int} {W : World} (h : FS g f B W) (j : Nat) : W.frozen? ⟨g, j, none⟩ = false := h.own.frozenAt j
theorem FS.le {g B : Nat} {f : Nat → Int} {W : World} (h : FS g f B W) : B ≤ g := (h.own.lt g rfl).1
theorem FS.put {g B : Nat} {f : Nat → Int} {W : World} (h : FS g f B W) (j : Nat) (v : Int) : FS g (fun i => if i = j then v else f i) B (W.setCell ⟨g, j, none⟩ (.int .i64 v)) := by
  refine ⟨?_⟩
  have := (h.own.stored j (.int .i64 v)).1
  rw [map_range_set] at this
  have e : (fun i => if i = j then Value.int IntKind.i64 v else Value.int IntKind.i64 (f i)) = fun i => Value.int IntKind.i64 (if i = j then v else f i) := by
    funext i
    split <;> rfl
  rw [e] at this
  exact this
theorem FS.congr {g B : Nat} {f f' : Nat → Int} {W : World} (h : FS g f B W) (e : ∀ j, j < 61 → f j = f' j) : FS g f' B W := by
  refine ⟨?_⟩
  have e2 : ((List.range 61).map fun j => Value.int .i64 (f j)) = (List.range 61).map fun j => Value.int .i64 (f' j) := by
    apply List.map_congr_left
    intro j hj
    rw [e j (List.mem_range.1 hj)]
  rw [← e2]
  exact h.own
theorem FS.drew {g B : Nat} {f : Nat → Int} {W : World} (h : FS g f B W) : FS g f B W.drew := ⟨own_same h.own fun _ _ _ => rfl⟩
def fibArr : Array Value := ((List.range 61).map fun j => Value.int .i64 (fibT 61 j)).toArray
theorem FS.heap {g B : Nat} {f : Nat → Int} {W : World} (h : FS g f B W) : W.heap[g]? = some (.cells ((List.range 61).map fun j => Value.int .i64 (f j)).toArray 88 (0, 0)) := by
  rcases h.own.2 with ⟨h1, -⟩ | ⟨g', cap, cur, h1, h2, h3, h4, h5, h6, h7⟩
  · cases h1
  · cases h1
    have e : cur = ((List.range 61).map fun j => Value.int .i64 (f j)).toArray := by
      apply Array.ext'
      rw [← h7, List.take_of_length_le (by simp at h6 ⊢; omega)]
    rw [← e]
    exact h3
theorem info88 : (Try.prog.info? 88).map (fun i => (i.zero, i.size)) = some (some (.agg (Array.replicate 61 (.int .i64 0))), 61) := by kernel_rfl
theorem zero88 (w : World) : (zeroValue 88).run Try.prog w = .ok (.agg (Array.replicate 61 (.int .i64 0))) w := (zero_of_info info88).1 w
theorem size88 : (Try.prog.info? 88).map (·.size) = some 61 := (zero_of_info info88).2
theorem wpList_load_row {P : Program} {ops : Array Oper} {rest : List Oper} {op : Oper} {a : Act} {w : World} {Q : Exit → Act → World → Prop} (hgd : op.guard = none) (ty : TypeId) (x : Operand) (ho : op.op = .load ty x)
    (g : Nat) (hx : a.eval x = .pointer (some ⟨g, 0, none⟩)) (cs : Array Value) (n : Nat) (e : TypeId) (hg : w.heap[g]? = some (.cells cs ty (0, 0))) (hu : P.underlying ty = some (.array n e)) (hi : (P.info? ty).map (·.size) = some cs.size)
    (h : wpList P ops Q rest (a.put op.dst (.agg cs)) w) : wpList P ops Q (op :: rest) a w :=
  wpList_plain hgd fun _ hK => by
    unfold Oper.wp execOp
    simp only [ho, hx, Instr.loadAt, Instr.sureAddr, Sem.run_bind, Sem.run_pure, Result.andThen_ok, run_loadVar_row w g ty ty cs (0, 0) _ hg hu rfl hi]
    exact hK _ _ h
theorem wpList_store_row {P : Program} {ops : Array Oper} {rest : List Oper} {op : Oper} {a : Act} {w : World} {Q : Exit → Act → World → Prop} (hgd : op.guard = none) (ty : TypeId) (x y : Operand) (ho : op.op = .store ty x y)
    (g : Nat) (cs old : Array Value) (hx : a.eval x = .pointer (some ⟨g, 0, none⟩)) (hy : a.eval y = .agg cs) (hg : w.heap[g]? = some (.cells old ty (0, 0))) (hi : (P.info? ty).map (·.size) = some cs.size) (hs : old.size = cs.size)
    (h1 : cs.all (·.oneCell') = true) (h : wpList P ops Q rest (a.put op.dst undef) (w.setRow g cs)) : wpList P ops Q (op :: rest) a w :=
  wpList_plain hgd fun _ hK => by
    unfold Oper.wp execOp
    simp only [ho, hx, hy, Instr.storeAt, Instr.sureAddr, Sem.run_bind, Sem.run_pure, Result.andThen_ok, run_storeVar_row w g ty ty old cs hg hi hs h1]
    exact hK _ _ h
theorem fibArr_size : fibArr.size = 61 := by simp [fibArr]
theorem fibArr_one : fibArr.all (·.oneCell') = true := by
  rw [Array.all_eq_true_iff_forall_mem]
  intro v hv
  simp only [fibArr, List.mem_toArray, List.mem_map] at hv
  obtain ⟨j, -, rfl⟩ := hv
  rfl
theorem fibT_next {T : Nat} (h : 2 ≤ T) {v : Int} (hv : v = fibN T) (j : Nat) : (if j = T then v else fibT T j) = fibT (T + 1) j := by
  unfold fibT
  by_cases hj : j = T
  · subst hj
    rw [if_pos rfl, if_pos (by omega), hv]
  · rw [if_neg hj]
    by_cases hj2 : 2 ≤ j ∧ j < T
    · rw [if_pos hj2, if_pos (by omega)]
    · rw [if_neg hj2, if_neg (by omega)]
theorem FS.start (w : World) : FS w.heap.size (fun _ => 0) w.heap.size (w.alloc (.cells (Array.replicate 61 (.int .i64 0)) 88)) := by
  refine ⟨?_⟩
  have h := World.ownsRow_lit (base := w.heap.size) (e := 88) (size := 1) w (Array.replicate 61 (.int .i64 0)) 61 (Nat.le_refl _) (by unfold maxLen; omega) (by simp)
  have e : (Array.replicate 61 (Value.int .i64 0)).toList = (List.range 61).map fun _ => Value.int .i64 0 := by
    rw [Array.toList_replicate, List.map_const', List.length_range]
  rw [e] at h
  exact h

def arrT (T : Nat) : Array Value := ((List.range 61).map fun j => Value.int .i64 (fibT T j)).toArray
/-- What lies while the array is filled. -/
structure FW (w : World) (T : Nat) (W : World) : Prop where
  b : Below w.heap.size w W
  z : W.heap[w.heap.size]? = some (.cells (Array.replicate 61 (.int .i64 0)) 88 (0, 0))
  f : FS (w.heap.size + 1) (fibT T) (w.heap.size + 1) W
theorem FW.start (w : World) : FW w 4 ((w.alloc (.cells (Array.replicate 61 (.int .i64 0)) 88)).alloc (.cells (arrT 4) 88)) := by
  refine ⟨((Below.refl _ w).alloc (Nat.le_refl _) _).alloc (by simp) _, ?_, ⟨?_⟩⟩
  · rw [Below.heap_alloc _ _ _ (by simp)]
    exact heap_alloc_last w _
  · have h := World.ownsRow_lit (base := w.heap.size + 1) (e := 88) (size := 1) (w.alloc (.cells (Array.replicate 61 (.int .i64 0)) 88)) (arrT 4) 61 (by simp) (by unfold maxLen; omega) (by simp [arrT])
    rw [show (w.alloc (.cells (Array.replicate 61 (.int .i64 0)) 88)).heap.size = w.heap.size + 1 by simp] at h
    exact h
theorem FW.put {w W : World} {T : Nat} {v : Int} (h : FW w T W) (h2 : 2 ≤ T) (hv : v = fibN T) : FW w (T + 1) (W.setCell ⟨w.heap.size + 1, T, none⟩ (.int .i64 v)).drew := by
  have hf := ((h.f.put T v).congr fun j _ => fibT_next h2 hv j).drew
  refine ⟨(h.b.setCell (p := ⟨w.heap.size + 1, T, none⟩) (by simp) _).drew, ?_, hf⟩
  have : ((W.setCell ⟨w.heap.size + 1, T, none⟩ (.int .i64 v)).drew).heap[w.heap.size]? = W.heap[w.heap.size]? := by
    show (W.setCell ⟨w.heap.size + 1, T, none⟩ (.int .i64 v)).heap[w.heap.size]? = _
    exact Below.heap_setCell _ _ _ _ (by simp)
  rw [this]
  exact h.z

theorem results_cell_one {fn : Func} {p : Tmp} {ty : TypeId} (h : fn.results = #[.cell p ty]) (tmps : Array Value) (P : Program) (w : World) :
    (results fn tmps).run P w = ((asAddr (tmps.getD p undef)).run P w).andThen fun a w₁ => (loadVar ty a).run P w₁ := by
  simp only [results, h]
  simp [Sem.run_bind, Result.andThen]

set_option maxHeartbeats 4000000 in
set_option maxRecDepth 100000 in
theorem fibonacci_any (w : World) :
    Calls Try.prog 94 #[] w fun e w' => e = .returned (.agg fibArr) ∧ Below w.heap.size w w' := by
  have HS := Lib.hid (FW.start w)
  go_enter Try.func94, Try.ntmps94
  go_wp2
  generalize hW1 : World.alloc _ _ = W1
  have H1 := Lib.hid (show FW w 4 W1 from hW1 ▸ HS.out)
  clear hW1 HS
  obtain ⟨g, hg⟩ : ∃ g, w.heap.size = g := ⟨_, rfl⟩
  have HG := Lib.hid hg
  rw [hg]
  clear hg
  go_loopg [2] 57 (fun gk i wr => ∃ T : Nat, T + gk = 61 ∧ 4 ≤ T ∧ i = .int .i64 (T : Int) ∧ FW w T wr)
  case atStart => exact ⟨4, by omega, by omega, rfl, H1.out⟩
  case round =>
    obtain ⟨T, hT, hT4, rfl, hs⟩ := hrel
    have HF := Lib.hid hs
    clear hs H1
    by_cases hT2 : T = 61
    · have hgt : ¬ (T : Int) ≤ 60 := by omega
      have hfw := HF.out
      rw [hT2] at hfw
      have hz := hfw.z
      have hf : wr.heap[w.heap.size + 1]? = some (.cells fibArr 88 (0, 0)) := hfw.f.heap
      have HB := Lib.hid hfw.b
      have HZ := Lib.hid hz
      rw [HG.out] at hz hf
      have sl := fibArr_size
      have s2 : (Array.replicate 61 (Value.int IntKind.i64 0)).size = fibArr.size := by rw [sl]; simp
      have HS2 := Lib.hid s2
      have hi : (Try.prog.info? 88).map (·.size) = some fibArr.size := by rw [size88, sl]
      have HI := Lib.hid hi
      have HFF := Lib.hid (And.intro hz hf)
      clear hfw hT2 hT hT4 hz hf s2 hi sl HF
      go_wp2_with (first
        | (refine wpList_load_row rfl 88 (.tmp 1) rfl (g + 1) rfl fibArr 61 3 HFF.out.2 Try.underlying88 HI.out ?_)
        | (refine wpList_store_row rfl 88 (.tmp 0) (.tmp 20) rfl g fibArr (Array.replicate 61 (.int .i64 0)) rfl rfl HFF.out.1 HI.out HS2.out fibArr_one ?_))
      refine bodyPost_ret (v := .agg fibArr) ?_ rfl ⟨rfl, below_setRow HB.out (by rw [HG.out]; exact Nat.le_refl _) _⟩
      have hr := run_loadVar_row (P := Try.prog) (wr.setRow g fibArr) g 88 88 fibArr (0, 0) _ (setRow_heap wr g _ fibArr 88 (0, 0) HFF.out.1) Try.underlying88 rfl HI.out
      rw [results_cell_one (fn := Try.f94) (p := 0) (ty := 88) Try.results94]
      exact hr
    · have hle : (T : Int) ≤ 60 := by omega
      have t0 : (4 : Int) ≤ (T : Int) := by omega
      have e1 : (T : Int) - 1 = ((T - 1 : Nat) : Int) := by omega
      have e2 : (T : Int) - 2 = ((T - 2 : Nat) : Int) := by omega
      have c1 := HF.out.f.cell (j := T - 1) (by omega)
      have c2 := HF.out.f.cell (j := T - 2) (by omega)
      have c3 := HF.out.f.cell (j := T) (by omega)
      have f3 := HF.out.f.frozen T
      rw [HG.out] at c1 c2 c3 f3
      have v1 : fibT T (T - 1) = fibN (T - 1) := by unfold fibT; rw [if_pos (by omega)]
      have v2 : fibT T (T - 2) = fibN (T - 2) := by unfold fibT; rw [if_pos (by omega)]
      have v3 : fibN T = fibN (T - 1) + fibN (T - 2) := by
        have := fibN_rec (T - 2)
        rw [show T - 2 + 2 = T by omega, show T - 2 + 1 = T - 1 by omega] at this
        exact this
      have b1 := fibN_mono (a := T - 1) (b := 60) (by omega)
      have b2 := fibN_mono (a := T - 2) (b := 60) (by omega)
      have n1 := fibN_nonneg (T - 1)
      have n2 := fibN_nonneg (T - 2)
      rw [fibN_60] at b1 b2
      rw [v1] at c1
      rw [v2] at c2
      obtain ⟨p, hp⟩ : ∃ p, T - 1 = p := ⟨_, rfl⟩
      obtain ⟨q, hq⟩ : ∃ q, T - 2 = q := ⟨_, rfl⟩
      have hpl : p < 61 := by omega
      have hql : q < 61 := by omega
      have hTl : T < 61 := by omega
      have hpl2 : (p : Int) < 61 := by omega
      have hql2 : (q : Int) < 61 := by omega
      rw [hp] at e1 c1 v3 b1 n1
      rw [hq] at e2 c2 v3 b2 n2
      obtain ⟨X, hX⟩ : ∃ X, fibN p = X := ⟨_, rfl⟩
      obtain ⟨Y, hY⟩ : ∃ Y, fibN q = Y := ⟨_, rfl⟩
      rw [hX] at c1 v3 b1 n1
      rw [hY] at c2 v3 b2 n2
      have HV := Lib.hid v3
      have HP := Lib.hid hT
      clear v1 v2 v3 hX hY hp hq hT2 hT
      obtain ⟨u, hu⟩ : ∃ u, fibT T T = u := ⟨_, rfl⟩
      rw [hu] at c3
      clear hu
      go_wp2
      go_big_region
      go_wp2
      have HN := Lib.hid (HF.out.put (by omega) HV.out.symm)
      rw [HG.out] at HN
      go_roundg (60 - T)
      case rel => exact ⟨T + 1, by have := HP.out; omega, by omega, by go_num, HN.out⟩
      case measure => have := HP.out; omega
end Go.Proofs.Ytbdabpmpfciibaa
