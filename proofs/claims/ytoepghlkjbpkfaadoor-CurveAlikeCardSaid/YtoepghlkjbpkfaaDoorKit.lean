/- How curves and points are read as arguments of a law, and read again behind the call; what the listed variable gives. No condition beyond those stated. -/
import Derived.Test.YtoepghlkjbpkfaaDoorRows
import Derived.Test.YtoepghlkjbpkfaaDoorHld
import Derived.Lib.SmallJoins
import Derived.WalkKit
import Derived.ProofKit
import Derived.OpenShut
import Derived.SizedLaws
import Derived.LaidMore
import Derived.Deep.Strs
import Derived.Stop.Joined
namespace Go.Proofs.YtoepghlkjbpkfaaDoor
open Go.ChangeShapes Go.WideShapes Go.ChangeAt Go.RowKit Go.Joins

theorem Tryd.own : ownKnob Tryd.prog.godebug = none := by kernel_rfl
theorem laidOut : laidOutB Tryd.prog = true := by kernel_rfl
theorem cells23 : Tryd.prog.cellsOf 23 = 3 := by kernel_rfl
theorem cells25 : Tryd.prog.cellsOf 25 = 3 := by kernel_rfl

def lit3 {H : Type} (P A B : Int) : DataW H := .agg [.lit (.int .i64 P), .lit (.int .i64 A), .lit (.int .i64 B)]
def litP {H : Type} (q : Pt) : DataW H := .agg [.lit (.int .i64 q.x), .lit (.int .i64 q.y), .lit (.bool q.f)]
set_option maxRecDepth 100000 in
theorem open_curve {H : Type} {enc : TypeId × Value → H} {W : World} {base : Nat} {v : Value} {d : DataW H} {p : List MemPlace}
    (hval : Value.okWide Tryd.prog W .any base 23 v) (h : DataW.Trod enc Tryd.prog W 0 (fun _ => true) true 23 v d p) :
    ∃ P A B : Int, v = .agg #[.int .i64 P, .int .i64 A, .int .i64 B] ∧ d = lit3 P A B ∧ p = [] ∧ (Lit.int .i64 P).wf = true ∧ (Lit.int .i64 A).wf = true ∧ (Lit.int .i64 B).wf = true := by
  obtain ⟨c0, c1, c2, y0, y1, y2, m, rfl, rfl, rfl, hy0, hy1, hy2⟩ := open_agg3 Tryd.underlying23 (by kernel_rfl) cells23 hval h
  obtain ⟨x, e0, rfl, wx⟩ := DataW.trod_int Tryd.underlying3 hy0
  obtain ⟨y, e1, rfl, wy⟩ := DataW.trod_int Tryd.underlying3 hy1
  obtain ⟨z, e2, rfl, wz⟩ := DataW.trod_int Tryd.underlying3 hy2
  simp at e0 e1 e2
  subst e0 e1 e2
  exact ⟨x, y, z, rfl, rfl, rfl, wx, wy, wz⟩
set_option maxRecDepth 100000 in
theorem shut_curve {H : Type} {enc : TypeId × Value → H} (W' : World) (b : Nat) (sp : Nat → Bool) (hd : Bool) {P A B : Int} (wx : (Lit.int .i64 P).wf = true) (wy : (Lit.int .i64 A).wf = true) (wz : (Lit.int .i64 B).wf = true) :
    DataW.Trod enc Tryd.prog W' b sp hd 23 (.agg #[.int .i64 P, .int .i64 A, .int .i64 B]) (lit3 P A B) [] := by
  exact shut_agg3 (enc := enc) (w := W') (base := b) (spare := sp) (held := hd) (y0 := (.lit (.int .i64 P), [])) (y1 := (.lit (.int .i64 A), [])) (y2 := (.lit (.int .i64 B), [])) Tryd.underlying23 (by kernel_rfl) cells23 ⟨1, by simp [DataW.trod, Tryd.underlying3, wx]⟩ ⟨1, by simp [DataW.trod, Tryd.underlying3, wy]⟩ ⟨1, by simp [DataW.trod, Tryd.underlying3, wz]⟩
set_option maxRecDepth 100000 in
theorem open_point {H : Type} {enc : TypeId × Value → H} {W : World} {base : Nat} {v : Value} {d : DataW H} {p : List MemPlace}
    (hval : Value.okWide Tryd.prog W .any base 25 v) (h : DataW.Trod enc Tryd.prog W 0 (fun _ => true) true 25 v d p) :
    ∃ q : Pt, v = .agg #[.int .i64 q.x, .int .i64 q.y, .bool q.f] ∧ d = litP q ∧ p = [] ∧ (Lit.int .i64 q.x).wf = true ∧ (Lit.int .i64 q.y).wf = true := by
  obtain ⟨c0, c1, c2, y0, y1, y2, m, rfl, rfl, rfl, hy0, hy1, hy2⟩ := open_agg3 Tryd.underlying25 (by kernel_rfl) cells25 hval h
  obtain ⟨x, e0, rfl, wx⟩ := DataW.trod_int Tryd.underlying3 hy0
  obtain ⟨y, e1, rfl, wy⟩ := DataW.trod_int Tryd.underlying3 hy1
  obtain ⟨z, e2, rfl⟩ := DataW.trod_bool Tryd.underlying4 hy2
  simp at e0 e1 e2
  subst e0 e1 e2
  exact ⟨⟨x, y, z⟩, rfl, rfl, rfl, wx, wy⟩
set_option maxRecDepth 100000 in
theorem shut_point {H : Type} {enc : TypeId × Value → H} (W' : World) (b : Nat) (sp : Nat → Bool) (hd : Bool) {q : Pt} (wx : (Lit.int .i64 q.x).wf = true) (wy : (Lit.int .i64 q.y).wf = true) :
    DataW.Trod enc Tryd.prog W' b sp hd 25 (.agg #[.int .i64 q.x, .int .i64 q.y, .bool q.f]) (litP q) [] := by
  exact shut_agg3 (enc := enc) (w := W') (base := b) (spare := sp) (held := hd) (y0 := (.lit (.int .i64 q.x), [])) (y1 := (.lit (.int .i64 q.y), [])) (y2 := (.lit (.bool q.f), [])) Tryd.underlying25 (by kernel_rfl) cells25 ⟨1, by simp [DataW.trod, Tryd.underlying3, wx]⟩ ⟨1, by simp [DataW.trod, Tryd.underlying3, wy]⟩ ⟨1, by simp [DataW.trod, Tryd.underlying4]⟩

theorem gFar : Tryd.prog.globalNamed "gherkin/curve.far" = some 0 := by kernel_rfl
theorem tFar : (Tryd.prog.globals[0]?).map (·.type) = some 34 := by kernel_rfl
abbrev laidF : List (String × DataW Unit) := [("gherkin/curve.far", Rows.laid_gherkin_curve_far)]
set_option maxRecDepth 100000 in
theorem of_laid {W : World} (h : laidMetH Tryd.prog laidF W) : Far W := by
  rw [MakeChecks.laidMetH_plain _ _ _ (by kernel_rfl)] at h
  obtain ⟨ps, ⟨g0, t0, cs0, f0, p0, q0, hg0, ht0, hv0, hd0, _, _⟩, _, _⟩ := h
  obtain rfl := Option.some.inj (gFar.symm.trans hg0)
  obtain rfl := Option.some.inj (tFar.symm.trans ht0)
  obtain ⟨y0, y1, y2, n, hx, hl, e0, e1, e2⟩ := Go.Deep.trod_struct3 Tryd.underlying34 hd0
  obtain ⟨l0⟩ := cs0
  have c34 : Tryd.prog.cellsOf 34 = 3 := by kernel_rfl
  have c3 : Tryd.prog.cellsOf 3 = 1 := by kernel_rfl
  have c4 : Tryd.prog.cellsOf 4 = 1 := by kernel_rfl
  rw [c34] at hl
  have v0 := World.var?_cell hg0 hv0 0
  have v1 := World.var?_cell hg0 hv0 1
  have v2 := World.var?_cell hg0 hv0 2
  match l0, hl, e0, e1, e2, v0, v1, v2 with
  | [a, b, c], _, e0, e1, e2, v0, v1, v2 =>
    simp only [c3, c4, List.drop_zero, List.drop_succ_cons, List.take_succ_cons, List.take_zero] at e0 e1 e2
    obtain ⟨x, k0, j0, -⟩ := DataW.trod_int Tryd.underlying3 e0
    obtain ⟨y, k1, j1, -⟩ := DataW.trod_int Tryd.underlying3 e1
    obtain ⟨z, k2, j2⟩ := DataW.trod_bool Tryd.underlying4 e2
    subst j0 j1 j2
    simp [Rows.laid_gherkin_curve_far] at hx k0 k1 k2 v0 v1 v2
    obtain ⟨⟨rfl, rfl, rfl⟩, -⟩ := hx
    subst k0 k1 k2
    exact ⟨World.block_lt_of_cell? _ _ v0, v0, v1, v2⟩
theorem door_met (os : Os) (args : Array Value) : laidMetH Tryd.prog laidF ((World.doorLaid Tryd.prog 400 os).forCall (fun _ _ => 0) ⟨#[], args, []⟩).memory :=
  laidMetH_of_parts3 (fuel := 8) (laidMet_of_run' 8 (by kernel_rfl) (by kernel_rfl)) (by kernel_rfl) (by kernel_rfl)
end Go.Proofs.YtoepghlkjbpkfaaDoor
