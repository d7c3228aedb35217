/-
  NARROWER THAN 'FOR EVERY INPUT', by the rows' own cells (each row's printed sentence says how): CurvePoints: laid · CurveSums: laid · CurveShapes: laid · CurveLogs: laid · CurveTwists: laid · CurveCounts: laid · CurveSeals: laid · CurveGroup: laid · CurveHasse: laid · CurveAlike: laid · CurveTorsion: laid · CurveExponents: laid · CurveSealed: laid · CurveClasses: laid.
  DERIVED. THE GIVEN ROWS OF THIS SEAT. 14 by the template 'for every input the law returns true; each argument reads behind the call as it read before'; 0 by the template 'total and deterministic' (their statements: YtoepghlkjbpkfaaDoorTotals.lean).
  GIVEN WITH THE SEED: the statements are not yours to turn. If you find one false, say at which input.
  Laid BY PROGRAM, IN A SANDBOX (cutbox-rows.mjs): the forced cells as the released guide's own fill.sh prints them over the translation 3433f6288e46c173… (all of the seat's roots in one cut). By AI agents, Wed Nov 11 2026. No macro, syntax, notation, axiom, sorry.
-/
import Derived.Test.YtoepghlkjbpkfaaDoorChecked
import GoSem.Claim
import GoSem.ClaimJoined
import GoSem.ClaimMapViews
import Derived.JoinedTies
import Derived.KernelRfl
namespace Go.Proofs.YtoepghlkjbpkfaaDoor
/- THE CELL 'sum', in the pinned program and in every row, IS THE sha256 OF THE DUMP (.gsa) THAT YtoepghlkjbpkfaaDoorProg.lean LOADS. Nothing in Lean hashes anything: it is a label: what it is worth is what the hold of that sum in a sandbox is worth. -/
noncomputable def Tryd.pinned : Pinned := { name := "ytoepghlkjbpkfaadoor", sum := "3433f6288e46c17316b22052820e7fe1bf90f260414173c33a75cfb15868ade7", checked := Tryd.checked }
namespace Rows
def none {H : Type} : Left H := { results := [], args := [] }

/- WHAT THE LISTED PACKAGE-LEVEL VARIABLES READ AS WHEN THE CALL BEGINS. Each datum BY PROGRAM (the guide's laid-datum.mjs) off the statement by which the dump's own 'gosem.cut.vars' lays the variable. In a bare row this is a premise. The card (YtoepghlkjbpkfaaDoorCards.lean) ties it to the program's text. -/
def laid_gherkin_curve_far {H : Type} : DataW H := .agg [.lit (.int .i64 0), .lit (.int .i64 0), .lit (.bool true)]

/-- 'gherkinlaw09.CurvePoints': WHATEVER THE INPUT: true; the input reads as it did. -/
def curvePointsSpec : ChangeSpec := { name := "curvePoints", fn := fun _ => fun
  | [d1, d2] => { results := [.lit (.bool true)], args := [d1, d2] }
  | _ => none }
def curvePointsRow : OpenClaim := { program := "ytoepghlkjbpkfaadoor", sum := "3433f6288e46c17316b22052820e7fe1bf90f260414173c33a75cfb15868ade7", func := "gherkin/gherkinlaw09.CurvePoints", spec := "curvePoints", named := ["gherkin/curve.far"], apart := false, laid := [("gherkin/curve.far", laid_gherkin_curve_far)] }
def CurvePointsSaid : Prop := curvePointsRow.holds Tryd.pinned (OpenSpec.ofChange curvePointsSpec)

/-- ITS FALSE NEIGHBOUR: 'it returns false'. Refute it at one input. -/
def curvePointsWrong : ChangeSpec := { name := "curvePoints", fn := fun _ => fun
  | [d1, d2] => { results := [.lit (.bool false)], args := [d1, d2] }
  | _ => none }
def CurvePointsWrongFalsely : Prop := curvePointsRow.holds Tryd.pinned (OpenSpec.ofChange curvePointsWrong)

/-- 'gherkinlaw09.CurveSums': WHATEVER THE INPUT: true; the input reads as it did. -/
def curveSumsSpec : ChangeSpec := { name := "curveSums", fn := fun _ => fun
  | [d1, d2, d3, d4] => { results := [.lit (.bool true)], args := [d1, d2, d3, d4] }
  | _ => none }
def curveSumsRow : OpenClaim := { program := "ytoepghlkjbpkfaadoor", sum := "3433f6288e46c17316b22052820e7fe1bf90f260414173c33a75cfb15868ade7", func := "gherkin/gherkinlaw09.CurveSums", spec := "curveSums", named := ["gherkin/curve.far"], apart := false, laid := [("gherkin/curve.far", laid_gherkin_curve_far)] }
def CurveSumsSaid : Prop := curveSumsRow.holds Tryd.pinned (OpenSpec.ofChange curveSumsSpec)

/-- ITS FALSE NEIGHBOUR: 'it returns false'. Refute it at one input. -/
def curveSumsWrong : ChangeSpec := { name := "curveSums", fn := fun _ => fun
  | [d1, d2, d3, d4] => { results := [.lit (.bool false)], args := [d1, d2, d3, d4] }
  | _ => none }
def CurveSumsWrongFalsely : Prop := curveSumsRow.holds Tryd.pinned (OpenSpec.ofChange curveSumsWrong)

/-- 'gherkinlaw09.CurveShapes': WHATEVER THE INPUT: true; the input reads as it did. -/
def curveShapesSpec : ChangeSpec := { name := "curveShapes", fn := fun _ => fun
  | [d] => { results := [.lit (.bool true)], args := [d] }
  | _ => none }
def curveShapesRow : OpenClaim := { program := "ytoepghlkjbpkfaadoor", sum := "3433f6288e46c17316b22052820e7fe1bf90f260414173c33a75cfb15868ade7", func := "gherkin/gherkinlaw09.CurveShapes", spec := "curveShapes", named := ["gherkin/curve.far"], apart := false, laid := [("gherkin/curve.far", laid_gherkin_curve_far)] }
def CurveShapesSaid : Prop := curveShapesRow.holds Tryd.pinned (OpenSpec.ofChange curveShapesSpec)

/-- ITS FALSE NEIGHBOUR: 'it returns false'. Refute it at one input. -/
def curveShapesWrong : ChangeSpec := { name := "curveShapes", fn := fun _ => fun
  | [d] => { results := [.lit (.bool false)], args := [d] }
  | _ => none }
def CurveShapesWrongFalsely : Prop := curveShapesRow.holds Tryd.pinned (OpenSpec.ofChange curveShapesWrong)

/-- 'gherkinlaw09.CurveLogs': WHATEVER THE INPUT: true; the input reads as it did. -/
def curveLogsSpec : ChangeSpec := { name := "curveLogs", fn := fun _ => fun
  | [d1, d2, d3, d4] => { results := [.lit (.bool true)], args := [d1, d2, d3, d4] }
  | _ => none }
def curveLogsRow : OpenClaim := { program := "ytoepghlkjbpkfaadoor", sum := "3433f6288e46c17316b22052820e7fe1bf90f260414173c33a75cfb15868ade7", func := "gherkin/gherkinlaw09.CurveLogs", spec := "curveLogs", named := ["gherkin/curve.far"], apart := false, laid := [("gherkin/curve.far", laid_gherkin_curve_far)] }
def CurveLogsSaid : Prop := curveLogsRow.holds Tryd.pinned (OpenSpec.ofChange curveLogsSpec)

/-- ITS FALSE NEIGHBOUR: 'it returns false'. Refute it at one input. -/
def curveLogsWrong : ChangeSpec := { name := "curveLogs", fn := fun _ => fun
  | [d1, d2, d3, d4] => { results := [.lit (.bool false)], args := [d1, d2, d3, d4] }
  | _ => none }
def CurveLogsWrongFalsely : Prop := curveLogsRow.holds Tryd.pinned (OpenSpec.ofChange curveLogsWrong)

/-- 'gherkinlaw09.CurveTwists': WHATEVER THE INPUT: true; the input reads as it did. -/
def curveTwistsSpec : ChangeSpec := { name := "curveTwists", fn := fun _ => fun
  | [d1, d2] => { results := [.lit (.bool true)], args := [d1, d2] }
  | _ => none }
def curveTwistsRow : OpenClaim := { program := "ytoepghlkjbpkfaadoor", sum := "3433f6288e46c17316b22052820e7fe1bf90f260414173c33a75cfb15868ade7", func := "gherkin/gherkinlaw09.CurveTwists", spec := "curveTwists", named := ["gherkin/curve.far"], apart := false, laid := [("gherkin/curve.far", laid_gherkin_curve_far)] }
def CurveTwistsSaid : Prop := curveTwistsRow.holds Tryd.pinned (OpenSpec.ofChange curveTwistsSpec)

/-- ITS FALSE NEIGHBOUR: 'it returns false'. Refute it at one input. -/
def curveTwistsWrong : ChangeSpec := { name := "curveTwists", fn := fun _ => fun
  | [d1, d2] => { results := [.lit (.bool false)], args := [d1, d2] }
  | _ => none }
def CurveTwistsWrongFalsely : Prop := curveTwistsRow.holds Tryd.pinned (OpenSpec.ofChange curveTwistsWrong)

/-- 'gherkinlaw09.CurveCounts': WHATEVER THE INPUT: true; the input reads as it did. -/
def curveCountsSpec : ChangeSpec := { name := "curveCounts", fn := fun _ => fun
  | [d] => { results := [.lit (.bool true)], args := [d] }
  | _ => none }
def curveCountsRow : OpenClaim := { program := "ytoepghlkjbpkfaadoor", sum := "3433f6288e46c17316b22052820e7fe1bf90f260414173c33a75cfb15868ade7", func := "gherkin/gherkinlaw09.CurveCounts", spec := "curveCounts", named := ["gherkin/curve.far"], apart := false, laid := [("gherkin/curve.far", laid_gherkin_curve_far)] }
def CurveCountsSaid : Prop := curveCountsRow.holds Tryd.pinned (OpenSpec.ofChange curveCountsSpec)

/-- ITS FALSE NEIGHBOUR: 'it returns false'. Refute it at one input. -/
def curveCountsWrong : ChangeSpec := { name := "curveCounts", fn := fun _ => fun
  | [d] => { results := [.lit (.bool false)], args := [d] }
  | _ => none }
def CurveCountsWrongFalsely : Prop := curveCountsRow.holds Tryd.pinned (OpenSpec.ofChange curveCountsWrong)

/-- 'gherkinlaw09.CurveSeals': WHATEVER THE INPUT: true; the input reads as it did. -/
def curveSealsSpec : ChangeSpec := { name := "curveSeals", fn := fun _ => fun
  | [d1, d2, d3, d4, d5, d6, d7] => { results := [.lit (.bool true)], args := [d1, d2, d3, d4, d5, d6, d7] }
  | _ => none }
def curveSealsRow : OpenClaim := { program := "ytoepghlkjbpkfaadoor", sum := "3433f6288e46c17316b22052820e7fe1bf90f260414173c33a75cfb15868ade7", func := "gherkin/gherkinlaw09.CurveSeals", spec := "curveSeals", named := ["gherkin/curve.far"], apart := false, laid := [("gherkin/curve.far", laid_gherkin_curve_far)] }
def CurveSealsSaid : Prop := curveSealsRow.holds Tryd.pinned (OpenSpec.ofChange curveSealsSpec)

/-- ITS FALSE NEIGHBOUR: 'it returns false'. Refute it at one input. -/
def curveSealsWrong : ChangeSpec := { name := "curveSeals", fn := fun _ => fun
  | [d1, d2, d3, d4, d5, d6, d7] => { results := [.lit (.bool false)], args := [d1, d2, d3, d4, d5, d6, d7] }
  | _ => none }
def CurveSealsWrongFalsely : Prop := curveSealsRow.holds Tryd.pinned (OpenSpec.ofChange curveSealsWrong)

/-- 'gherkinlaw09.CurveGroup': WHATEVER THE INPUT: true; the input reads as it did. -/
def curveGroupSpec : ChangeSpec := { name := "curveGroup", fn := fun _ => fun
  | [d1, d2, d3, d4] => { results := [.lit (.bool true)], args := [d1, d2, d3, d4] }
  | _ => none }
def curveGroupRow : OpenClaim := { program := "ytoepghlkjbpkfaadoor", sum := "3433f6288e46c17316b22052820e7fe1bf90f260414173c33a75cfb15868ade7", func := "gherkin/gherkinlaw09.CurveGroup", spec := "curveGroup", named := ["gherkin/curve.far"], apart := false, laid := [("gherkin/curve.far", laid_gherkin_curve_far)] }
def CurveGroupSaid : Prop := curveGroupRow.holds Tryd.pinned (OpenSpec.ofChange curveGroupSpec)

/-- ITS FALSE NEIGHBOUR: 'it returns false'. Refute it at one input. -/
def curveGroupWrong : ChangeSpec := { name := "curveGroup", fn := fun _ => fun
  | [d1, d2, d3, d4] => { results := [.lit (.bool false)], args := [d1, d2, d3, d4] }
  | _ => none }
def CurveGroupWrongFalsely : Prop := curveGroupRow.holds Tryd.pinned (OpenSpec.ofChange curveGroupWrong)

/-- 'gherkinlaw09.CurveHasse': WHATEVER THE INPUT: true; the input reads as it did. -/
def curveHasseSpec : ChangeSpec := { name := "curveHasse", fn := fun _ => fun
  | [d] => { results := [.lit (.bool true)], args := [d] }
  | _ => none }
def curveHasseRow : OpenClaim := { program := "ytoepghlkjbpkfaadoor", sum := "3433f6288e46c17316b22052820e7fe1bf90f260414173c33a75cfb15868ade7", func := "gherkin/gherkinlaw09.CurveHasse", spec := "curveHasse", named := ["gherkin/curve.far"], apart := false, laid := [("gherkin/curve.far", laid_gherkin_curve_far)] }
def CurveHasseSaid : Prop := curveHasseRow.holds Tryd.pinned (OpenSpec.ofChange curveHasseSpec)

/-- ITS FALSE NEIGHBOUR: 'it returns false'. Refute it at one input. -/
def curveHasseWrong : ChangeSpec := { name := "curveHasse", fn := fun _ => fun
  | [d] => { results := [.lit (.bool false)], args := [d] }
  | _ => none }
def CurveHasseWrongFalsely : Prop := curveHasseRow.holds Tryd.pinned (OpenSpec.ofChange curveHasseWrong)

/-- 'gherkinlaw09.CurveAlike': WHATEVER THE INPUT: true; the input reads as it did. -/
def curveAlikeSpec : ChangeSpec := { name := "curveAlike", fn := fun _ => fun
  | [d1, d2, d3] => { results := [.lit (.bool true)], args := [d1, d2, d3] }
  | _ => none }
def curveAlikeRow : OpenClaim := { program := "ytoepghlkjbpkfaadoor", sum := "3433f6288e46c17316b22052820e7fe1bf90f260414173c33a75cfb15868ade7", func := "gherkin/gherkinlaw09.CurveAlike", spec := "curveAlike", named := ["gherkin/curve.far"], apart := false, laid := [("gherkin/curve.far", laid_gherkin_curve_far)] }
def CurveAlikeSaid : Prop := curveAlikeRow.holds Tryd.pinned (OpenSpec.ofChange curveAlikeSpec)

/-- ITS FALSE NEIGHBOUR: 'it returns false'. Refute it at one input. -/
def curveAlikeWrong : ChangeSpec := { name := "curveAlike", fn := fun _ => fun
  | [d1, d2, d3] => { results := [.lit (.bool false)], args := [d1, d2, d3] }
  | _ => none }
def CurveAlikeWrongFalsely : Prop := curveAlikeRow.holds Tryd.pinned (OpenSpec.ofChange curveAlikeWrong)

/-- 'gherkinlaw09.CurveTorsion': WHATEVER THE INPUT: true; the input reads as it did. -/
def curveTorsionSpec : ChangeSpec := { name := "curveTorsion", fn := fun _ => fun
  | [d1, d2] => { results := [.lit (.bool true)], args := [d1, d2] }
  | _ => none }
def curveTorsionRow : OpenClaim := { program := "ytoepghlkjbpkfaadoor", sum := "3433f6288e46c17316b22052820e7fe1bf90f260414173c33a75cfb15868ade7", func := "gherkin/gherkinlaw09.CurveTorsion", spec := "curveTorsion", named := ["gherkin/curve.far"], apart := false, laid := [("gherkin/curve.far", laid_gherkin_curve_far)] }
def CurveTorsionSaid : Prop := curveTorsionRow.holds Tryd.pinned (OpenSpec.ofChange curveTorsionSpec)

/-- ITS FALSE NEIGHBOUR: 'it returns false'. Refute it at one input. -/
def curveTorsionWrong : ChangeSpec := { name := "curveTorsion", fn := fun _ => fun
  | [d1, d2] => { results := [.lit (.bool false)], args := [d1, d2] }
  | _ => none }
def CurveTorsionWrongFalsely : Prop := curveTorsionRow.holds Tryd.pinned (OpenSpec.ofChange curveTorsionWrong)

/-- 'gherkinlaw09.CurveExponents': WHATEVER THE INPUT: true; the input reads as it did. -/
def curveExponentsSpec : ChangeSpec := { name := "curveExponents", fn := fun _ => fun
  | [d1, d2, d3, d4] => { results := [.lit (.bool true)], args := [d1, d2, d3, d4] }
  | _ => none }
def curveExponentsRow : OpenClaim := { program := "ytoepghlkjbpkfaadoor", sum := "3433f6288e46c17316b22052820e7fe1bf90f260414173c33a75cfb15868ade7", func := "gherkin/gherkinlaw09.CurveExponents", spec := "curveExponents", named := ["gherkin/curve.far"], apart := false, laid := [("gherkin/curve.far", laid_gherkin_curve_far)] }
def CurveExponentsSaid : Prop := curveExponentsRow.holds Tryd.pinned (OpenSpec.ofChange curveExponentsSpec)

/-- ITS FALSE NEIGHBOUR: 'it returns false'. Refute it at one input. -/
def curveExponentsWrong : ChangeSpec := { name := "curveExponents", fn := fun _ => fun
  | [d1, d2, d3, d4] => { results := [.lit (.bool false)], args := [d1, d2, d3, d4] }
  | _ => none }
def CurveExponentsWrongFalsely : Prop := curveExponentsRow.holds Tryd.pinned (OpenSpec.ofChange curveExponentsWrong)

/-- 'gherkinlaw09.CurveSealed': WHATEVER THE INPUT: true; the input reads as it did. -/
def curveSealedSpec : ChangeSpec := { name := "curveSealed", fn := fun _ => fun
  | [d1, d2, d3, d4, d5] => { results := [.lit (.bool true)], args := [d1, d2, d3, d4, d5] }
  | _ => none }
def curveSealedRow : OpenClaim := { program := "ytoepghlkjbpkfaadoor", sum := "3433f6288e46c17316b22052820e7fe1bf90f260414173c33a75cfb15868ade7", func := "gherkin/gherkinlaw09.CurveSealed", spec := "curveSealed", named := ["gherkin/curve.far"], apart := false, laid := [("gherkin/curve.far", laid_gherkin_curve_far)] }
def CurveSealedSaid : Prop := curveSealedRow.holds Tryd.pinned (OpenSpec.ofChange curveSealedSpec)

/-- ITS FALSE NEIGHBOUR: 'it returns false'. Refute it at one input. -/
def curveSealedWrong : ChangeSpec := { name := "curveSealed", fn := fun _ => fun
  | [d1, d2, d3, d4, d5] => { results := [.lit (.bool false)], args := [d1, d2, d3, d4, d5] }
  | _ => none }
def CurveSealedWrongFalsely : Prop := curveSealedRow.holds Tryd.pinned (OpenSpec.ofChange curveSealedWrong)

/-- 'gherkinlaw09.CurveClasses': WHATEVER THE INPUT: true; the input reads as it did. -/
def curveClassesSpec : ChangeSpec := { name := "curveClasses", fn := fun _ => fun
  | [d] => { results := [.lit (.bool true)], args := [d] }
  | _ => none }
def curveClassesRow : OpenClaim := { program := "ytoepghlkjbpkfaadoor", sum := "3433f6288e46c17316b22052820e7fe1bf90f260414173c33a75cfb15868ade7", func := "gherkin/gherkinlaw09.CurveClasses", spec := "curveClasses", named := ["gherkin/curve.far"], apart := false, laid := [("gherkin/curve.far", laid_gherkin_curve_far)] }
def CurveClassesSaid : Prop := curveClassesRow.holds Tryd.pinned (OpenSpec.ofChange curveClassesSpec)

/-- ITS FALSE NEIGHBOUR: 'it returns false'. Refute it at one input. -/
def curveClassesWrong : ChangeSpec := { name := "curveClasses", fn := fun _ => fun
  | [d] => { results := [.lit (.bool false)], args := [d] }
  | _ => none }
def CurveClassesWrongFalsely : Prop := curveClassesRow.holds Tryd.pinned (OpenSpec.ofChange curveClassesWrong)

/- THE SECOND FORM. 'bulk': how many values and letters a reading holds, each counted each time it is reached (what is shared counts as often as it is met; a slice's spare places count too). A statement '..UptoSaid' is the law's where the arguments, and the package variables that the reading takes, are together of bulk at most 1048576: NARROWER than '..Said'. Prove '..Said' where nothing that the law and all that it calls make is longer than what came in: it says more and counts as full. Else prove '..UptoSaid'. A law counts once. -/
mutual
def uptoBulk {H : Type} : DataW H → Nat
  | .lit (.string bytes) => bytes.length + 1
  | .lit _ => 1
  | .nil => 1
  | .ptr d => uptoBulk d + 1
  | .slice elems spare => uptoBulkAll elems + uptoBulkAll spare + 1
  | .agg parts => uptoBulkAll parts + 1
  | .iface _ d => uptoBulk d + 1
  | .map entries => uptoBulkEntries entries + 1
  | .held _ => 1
def uptoBulkAll {H : Type} : List (DataW H) → Nat
  | [] => 0
  | d :: r => uptoBulk d + uptoBulkAll r
def uptoBulkEntries {H : Type} : List (Lit × DataW H) → Nat
  | [] => 0
  | x :: r => uptoBulkEntry x + uptoBulkEntries r
def uptoBulkEntry {H : Type} : Lit × DataW H → Nat
  | (.string bytes, d) => bytes.length + uptoBulk d + 1
  | (_, d) => uptoBulk d + 1
 end
def uptoSmall : (H : Type) → List (DataW H) → Bool := fun _ ds => decide (uptoBulkAll ds ≤ 1048576)
def OpenSpec.upto (s : _root_.Go.ChangeSpec) : _root_.Go.OpenSpec := { _root_.Go.OpenSpec.ofChange s with cond := some uptoSmall }

/-- 'gherkinlaw09.CurvePoints', WHERE WHAT IT READS IS OF BULK AT MOST 1048576: true; the input reads as it did. -/
def curvePointsUptoRow : OpenClaim := { program := "ytoepghlkjbpkfaadoor", sum := "3433f6288e46c17316b22052820e7fe1bf90f260414173c33a75cfb15868ade7", func := "gherkin/gherkinlaw09.CurvePoints", spec := "curvePoints", named := ["gherkin/curve.far"], apart := false, laid := [("gherkin/curve.far", laid_gherkin_curve_far)], narrowed := true }
def CurvePointsUptoSaid : Prop := curvePointsUptoRow.holds Tryd.pinned (OpenSpec.upto curvePointsSpec)

/-- 'gherkinlaw09.CurveSums', WHERE WHAT IT READS IS OF BULK AT MOST 1048576: true; the input reads as it did. -/
def curveSumsUptoRow : OpenClaim := { program := "ytoepghlkjbpkfaadoor", sum := "3433f6288e46c17316b22052820e7fe1bf90f260414173c33a75cfb15868ade7", func := "gherkin/gherkinlaw09.CurveSums", spec := "curveSums", named := ["gherkin/curve.far"], apart := false, laid := [("gherkin/curve.far", laid_gherkin_curve_far)], narrowed := true }
def CurveSumsUptoSaid : Prop := curveSumsUptoRow.holds Tryd.pinned (OpenSpec.upto curveSumsSpec)

/-- 'gherkinlaw09.CurveShapes', WHERE WHAT IT READS IS OF BULK AT MOST 1048576: true; the input reads as it did. -/
def curveShapesUptoRow : OpenClaim := { program := "ytoepghlkjbpkfaadoor", sum := "3433f6288e46c17316b22052820e7fe1bf90f260414173c33a75cfb15868ade7", func := "gherkin/gherkinlaw09.CurveShapes", spec := "curveShapes", named := ["gherkin/curve.far"], apart := false, laid := [("gherkin/curve.far", laid_gherkin_curve_far)], narrowed := true }
def CurveShapesUptoSaid : Prop := curveShapesUptoRow.holds Tryd.pinned (OpenSpec.upto curveShapesSpec)

/-- 'gherkinlaw09.CurveLogs', WHERE WHAT IT READS IS OF BULK AT MOST 1048576: true; the input reads as it did. -/
def curveLogsUptoRow : OpenClaim := { program := "ytoepghlkjbpkfaadoor", sum := "3433f6288e46c17316b22052820e7fe1bf90f260414173c33a75cfb15868ade7", func := "gherkin/gherkinlaw09.CurveLogs", spec := "curveLogs", named := ["gherkin/curve.far"], apart := false, laid := [("gherkin/curve.far", laid_gherkin_curve_far)], narrowed := true }
def CurveLogsUptoSaid : Prop := curveLogsUptoRow.holds Tryd.pinned (OpenSpec.upto curveLogsSpec)

/-- 'gherkinlaw09.CurveTwists', WHERE WHAT IT READS IS OF BULK AT MOST 1048576: true; the input reads as it did. -/
def curveTwistsUptoRow : OpenClaim := { program := "ytoepghlkjbpkfaadoor", sum := "3433f6288e46c17316b22052820e7fe1bf90f260414173c33a75cfb15868ade7", func := "gherkin/gherkinlaw09.CurveTwists", spec := "curveTwists", named := ["gherkin/curve.far"], apart := false, laid := [("gherkin/curve.far", laid_gherkin_curve_far)], narrowed := true }
def CurveTwistsUptoSaid : Prop := curveTwistsUptoRow.holds Tryd.pinned (OpenSpec.upto curveTwistsSpec)

/-- 'gherkinlaw09.CurveCounts', WHERE WHAT IT READS IS OF BULK AT MOST 1048576: true; the input reads as it did. -/
def curveCountsUptoRow : OpenClaim := { program := "ytoepghlkjbpkfaadoor", sum := "3433f6288e46c17316b22052820e7fe1bf90f260414173c33a75cfb15868ade7", func := "gherkin/gherkinlaw09.CurveCounts", spec := "curveCounts", named := ["gherkin/curve.far"], apart := false, laid := [("gherkin/curve.far", laid_gherkin_curve_far)], narrowed := true }
def CurveCountsUptoSaid : Prop := curveCountsUptoRow.holds Tryd.pinned (OpenSpec.upto curveCountsSpec)

/-- 'gherkinlaw09.CurveSeals', WHERE WHAT IT READS IS OF BULK AT MOST 1048576: true; the input reads as it did. -/
def curveSealsUptoRow : OpenClaim := { program := "ytoepghlkjbpkfaadoor", sum := "3433f6288e46c17316b22052820e7fe1bf90f260414173c33a75cfb15868ade7", func := "gherkin/gherkinlaw09.CurveSeals", spec := "curveSeals", named := ["gherkin/curve.far"], apart := false, laid := [("gherkin/curve.far", laid_gherkin_curve_far)], narrowed := true }
def CurveSealsUptoSaid : Prop := curveSealsUptoRow.holds Tryd.pinned (OpenSpec.upto curveSealsSpec)

/-- 'gherkinlaw09.CurveGroup', WHERE WHAT IT READS IS OF BULK AT MOST 1048576: true; the input reads as it did. -/
def curveGroupUptoRow : OpenClaim := { program := "ytoepghlkjbpkfaadoor", sum := "3433f6288e46c17316b22052820e7fe1bf90f260414173c33a75cfb15868ade7", func := "gherkin/gherkinlaw09.CurveGroup", spec := "curveGroup", named := ["gherkin/curve.far"], apart := false, laid := [("gherkin/curve.far", laid_gherkin_curve_far)], narrowed := true }
def CurveGroupUptoSaid : Prop := curveGroupUptoRow.holds Tryd.pinned (OpenSpec.upto curveGroupSpec)

/-- 'gherkinlaw09.CurveHasse', WHERE WHAT IT READS IS OF BULK AT MOST 1048576: true; the input reads as it did. -/
def curveHasseUptoRow : OpenClaim := { program := "ytoepghlkjbpkfaadoor", sum := "3433f6288e46c17316b22052820e7fe1bf90f260414173c33a75cfb15868ade7", func := "gherkin/gherkinlaw09.CurveHasse", spec := "curveHasse", named := ["gherkin/curve.far"], apart := false, laid := [("gherkin/curve.far", laid_gherkin_curve_far)], narrowed := true }
def CurveHasseUptoSaid : Prop := curveHasseUptoRow.holds Tryd.pinned (OpenSpec.upto curveHasseSpec)

/-- 'gherkinlaw09.CurveAlike', WHERE WHAT IT READS IS OF BULK AT MOST 1048576: true; the input reads as it did. -/
def curveAlikeUptoRow : OpenClaim := { program := "ytoepghlkjbpkfaadoor", sum := "3433f6288e46c17316b22052820e7fe1bf90f260414173c33a75cfb15868ade7", func := "gherkin/gherkinlaw09.CurveAlike", spec := "curveAlike", named := ["gherkin/curve.far"], apart := false, laid := [("gherkin/curve.far", laid_gherkin_curve_far)], narrowed := true }
def CurveAlikeUptoSaid : Prop := curveAlikeUptoRow.holds Tryd.pinned (OpenSpec.upto curveAlikeSpec)

/-- 'gherkinlaw09.CurveTorsion', WHERE WHAT IT READS IS OF BULK AT MOST 1048576: true; the input reads as it did. -/
def curveTorsionUptoRow : OpenClaim := { program := "ytoepghlkjbpkfaadoor", sum := "3433f6288e46c17316b22052820e7fe1bf90f260414173c33a75cfb15868ade7", func := "gherkin/gherkinlaw09.CurveTorsion", spec := "curveTorsion", named := ["gherkin/curve.far"], apart := false, laid := [("gherkin/curve.far", laid_gherkin_curve_far)], narrowed := true }
def CurveTorsionUptoSaid : Prop := curveTorsionUptoRow.holds Tryd.pinned (OpenSpec.upto curveTorsionSpec)

/-- 'gherkinlaw09.CurveExponents', WHERE WHAT IT READS IS OF BULK AT MOST 1048576: true; the input reads as it did. -/
def curveExponentsUptoRow : OpenClaim := { program := "ytoepghlkjbpkfaadoor", sum := "3433f6288e46c17316b22052820e7fe1bf90f260414173c33a75cfb15868ade7", func := "gherkin/gherkinlaw09.CurveExponents", spec := "curveExponents", named := ["gherkin/curve.far"], apart := false, laid := [("gherkin/curve.far", laid_gherkin_curve_far)], narrowed := true }
def CurveExponentsUptoSaid : Prop := curveExponentsUptoRow.holds Tryd.pinned (OpenSpec.upto curveExponentsSpec)

/-- 'gherkinlaw09.CurveSealed', WHERE WHAT IT READS IS OF BULK AT MOST 1048576: true; the input reads as it did. -/
def curveSealedUptoRow : OpenClaim := { program := "ytoepghlkjbpkfaadoor", sum := "3433f6288e46c17316b22052820e7fe1bf90f260414173c33a75cfb15868ade7", func := "gherkin/gherkinlaw09.CurveSealed", spec := "curveSealed", named := ["gherkin/curve.far"], apart := false, laid := [("gherkin/curve.far", laid_gherkin_curve_far)], narrowed := true }
def CurveSealedUptoSaid : Prop := curveSealedUptoRow.holds Tryd.pinned (OpenSpec.upto curveSealedSpec)

/-- 'gherkinlaw09.CurveClasses', WHERE WHAT IT READS IS OF BULK AT MOST 1048576: true; the input reads as it did. -/
def curveClassesUptoRow : OpenClaim := { program := "ytoepghlkjbpkfaadoor", sum := "3433f6288e46c17316b22052820e7fe1bf90f260414173c33a75cfb15868ade7", func := "gherkin/gherkinlaw09.CurveClasses", spec := "curveClasses", named := ["gherkin/curve.far"], apart := false, laid := [("gherkin/curve.far", laid_gherkin_curve_far)], narrowed := true }
def CurveClassesUptoSaid : Prop := curveClassesUptoRow.holds Tryd.pinned (OpenSpec.upto curveClassesSpec)

end Rows
end Go.Proofs.YtoepghlkjbpkfaaDoor
