/- Points and curves as values; the far point in memory; the walks of isRest, isPrime, isModulus, has. Conditions as stated in each theorem. -/
import Derived.Test.YtoepghlkjbpkfaaDoorBase
import Derived.ChangeKeysEq
import Derived.Laws.StructEq
namespace Go.Proofs.YtoepghlkjbpkfaaDoor
open Go.RowKit
attribute [local go_sem] Oper.semAt_some

structure Pt where
  x : Int
  y : Int
  f : Bool
deriving DecidableEq

/-- The package's far point lies in memory. -/
def Far (w : World) : Prop := 0 < w.heap.size ∧ w.cell? ⟨0, 0, none⟩ = some (.int .i64 0) ∧ w.cell? ⟨0, 1, none⟩ = some (.int .i64 0) ∧ w.cell? ⟨0, 2, none⟩ = some (.bool true)
theorem Far.below {w w' : World} (h : Far w) (hb : Below w.heap.size w w') : Far w' :=
  ⟨Nat.lt_of_lt_of_le h.1 hb.size, (hb.cell (p := ⟨0, 0, none⟩) h.1).trans h.2.1, (hb.cell (p := ⟨0, 1, none⟩) h.1).trans h.2.2.1, (hb.cell (p := ⟨0, 2, none⟩) h.1).trans h.2.2.2⟩

/-- a prime from 5 to 31 -/
def isM (p : Int) : Bool := p == 5 || p == 7 || p == 11 || p == 13 || p == 17 || p == 19 || p == 23 || p == 29 || p == 31
theorem isM_le {p : Int} (h : isM p = true) : 5 ≤ p ∧ p ≤ 31 := by
  simp [isM] at h
  omega
/-- a number from 0 to m - 1 -/
def isR (x m : Int) : Bool := decide (0 ≤ x) && decide (x < m)
theorem cells3' : Tryd.prog.cellsOf 3 = 1 := by kernel_rfl
theorem cells4' : Tryd.prog.cellsOf 4 = 1 := by kernel_rfl
theorem isR_iff {x m : Int} : isR x m = true ↔ 0 ≤ x ∧ x < m := by simp [isR]

set_option maxHeartbeats 1000000 in
theorem isRest_any (x m : Int) (w : World) : Calls Tryd.prog 79 #[.int .i64 x, .int .i64 m] w fun e w' => e = .returned (.bool (isR x m)) ∧ w' = w := by
  unfold isR
  by_cases h0 : 0 ≤ x
  · have g0 : decide (0 ≤ x) = true := decide_eq_true h0
    go_enter Tryd.func79, Tryd.ntmps79
    go_wp2
    go_ret
    exact ⟨ret_bool (by simp [h0]), rfl⟩
  · have g0 : decide (0 ≤ x) = false := decide_eq_false h0
    go_enter Tryd.func79, Tryd.ntmps79
    go_wp2
    go_ret
    exact ⟨ret_bool (by simp [h0]), rfl⟩


theorem held34 : Tryd.prog.stoodInHeld 34 = false := by kernel_rfl
theorem und34 : Tryd.prog.underlying 34 = some (.struct (Tryd.prog.fieldsOf 34)) := by kernel_rfl
theorem fl34 : (Tryd.prog.fieldsOf 34).toList.map (fun f => (f.name, f.type, f.offset)) = [("X", 3, 0), ("Y", 3, 1), ("Far", 4, 2)] := by kernel_rfl
theorem eqIn34 (w : World) (a b : Pt) : (Op.equalIn 10000 34 (.agg #[.int .i64 a.x, .int .i64 a.y, .bool a.f]) (.agg #[.int .i64 b.x, .int .i64 b.y, .bool b.f])).run Tryd.prog w = .ok (decide (a = b)) w := by
  rw [run_equalIn_struct w 9999 34 _ _ und34 held34]
  have h := fl34
  obtain ⟨f, g, k, hf⟩ : ∃ f g k, (Tryd.prog.fieldsOf 34).toList = [f, g, k] := by
    generalize (Tryd.prog.fieldsOf 34).toList = l at h
    match l, h with
    | [f, g, k], _ => exact ⟨f, g, k, rfl⟩
    | [], h => simp at h
    | [_], h => simp at h
    | [_, _], h => simp at h
    | _ :: _ :: _ :: _ :: _, h => simp at h
  rw [hf] at h ⊢
  simp only [List.map_cons, List.map_nil, List.cons.injEq, Prod.mk.injEq, and_true] at h
  obtain ⟨⟨f1, f2, f3⟩, ⟨g1, g2, g3⟩, ⟨k1, k2, k3⟩⟩ := h
  obtain ⟨a1, a2, a3⟩ := a
  obtain ⟨b1, b2, b3⟩ := b
  have hu := Tryd.underlying3
  have hv := Tryd.underlying4
  by_cases e1 : a1 = b1 <;> by_cases e2 : a2 = b2 <;> cases a3 <;> cases b3 <;>
    simp [go_sem, Op.eqFields, f1, f2, f3, g1, g2, g3, k1, k2, k3, part, hu, hv, run_equalIn_int, cells3', cells4', e1, e2]
theorem eql34 (w : World) (a b : Pt) : (binOp .eql 34 (.agg #[.int .i64 a.x, .int .i64 a.y, .bool a.f]) (.agg #[.int .i64 b.x, .int .i64 b.y, .bool b.f])).run Tryd.prog w = .ok (.bool (decide (a = b))) w := by
  rw [run_eql_struct, eqIn34]
  rfl
theorem neq34 (w : World) (a b : Pt) : (binOp .neq 34 (.agg #[.int .i64 a.x, .int .i64 a.y, .bool a.f]) (.agg #[.int .i64 b.x, .int .i64 b.y, .bool b.f])).run Tryd.prog w = .ok (.bool (!decide (a = b))) w := by
  rw [run_neq_struct, eqIn34]
  rfl

theorem held25 : Tryd.prog.stoodInHeld 25 = false := by kernel_rfl
theorem und25 : Tryd.prog.underlying 25 = some (.struct (Tryd.prog.fieldsOf 25)) := by kernel_rfl
theorem fl25 : (Tryd.prog.fieldsOf 25).toList.map (fun f => (f.name, f.type, f.offset)) = [("X", 3, 0), ("Y", 3, 1), ("Far", 4, 2)] := by kernel_rfl
theorem eqIn25 (w : World) (a b : Pt) : (Op.equalIn 10000 25 (.agg #[.int .i64 a.x, .int .i64 a.y, .bool a.f]) (.agg #[.int .i64 b.x, .int .i64 b.y, .bool b.f])).run Tryd.prog w = .ok (decide (a = b)) w := by
  rw [run_equalIn_struct w 9999 25 _ _ und25 held25]
  have h := fl25
  obtain ⟨f, g, k, hf⟩ : ∃ f g k, (Tryd.prog.fieldsOf 25).toList = [f, g, k] := by
    generalize (Tryd.prog.fieldsOf 25).toList = l at h
    match l, h with
    | [f, g, k], _ => exact ⟨f, g, k, rfl⟩
    | [], h => simp at h
    | [_], h => simp at h
    | [_, _], h => simp at h
    | _ :: _ :: _ :: _ :: _, h => simp at h
  rw [hf] at h ⊢
  simp only [List.map_cons, List.map_nil, List.cons.injEq, Prod.mk.injEq, and_true] at h
  obtain ⟨⟨f1, f2, f3⟩, ⟨g1, g2, g3⟩, ⟨k1, k2, k3⟩⟩ := h
  obtain ⟨a1, a2, a3⟩ := a
  obtain ⟨b1, b2, b3⟩ := b
  have hu := Tryd.underlying3
  have hv := Tryd.underlying4
  by_cases e1 : a1 = b1 <;> by_cases e2 : a2 = b2 <;> cases a3 <;> cases b3 <;>
    simp [go_sem, Op.eqFields, f1, f2, f3, g1, g2, g3, k1, k2, k3, part, hu, hv, run_equalIn_int, cells3', cells4', e1, e2]
theorem eql25 (w : World) (a b : Pt) : (binOp .eql 25 (.agg #[.int .i64 a.x, .int .i64 a.y, .bool a.f]) (.agg #[.int .i64 b.x, .int .i64 b.y, .bool b.f])).run Tryd.prog w = .ok (.bool (decide (a = b))) w := by
  rw [run_eql_struct, eqIn25]
  rfl
theorem neq25 (w : World) (a b : Pt) : (binOp .neq 25 (.agg #[.int .i64 a.x, .int .i64 a.y, .bool a.f]) (.agg #[.int .i64 b.x, .int .i64 b.y, .bool b.f])).run Tryd.prog w = .ok (.bool (!decide (a = b))) w := by
  rw [run_neq_struct, eqIn25]
  rfl
end Go.Proofs.YtoepghlkjbpkfaaDoor
