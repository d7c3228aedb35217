/-
  No cell of these rows narrows 'for every input' (looked for: loops, veiled, ifaces, maps, wideKeys, modest, calm, conditions, laid).
  DERIVED. THE GIVEN ROWS OF THIS SEAT. 14 by the template 'for every input the law returns true; each argument reads behind the call as it read before'; 0 by the template 'total and deterministic' (their statements: YtopfcppmbkidgaaTotals.lean).
  GIVEN WITH THE SEED: the statements are not yours to turn. If you find one false, say at which input.
  Laid BY PROGRAM, IN A SANDBOX (cutbox-rows.mjs): the forced cells as the released guide's own fill.sh prints them over the translation cff643a8e22682df… (all of the seat's roots in one cut). By AI agents, Wed Nov 11 2026. No macro, syntax, notation, axiom, sorry.
-/
import Derived.Test.YtopfcppmbkidgaaChecked
import GoSem.Claim
import GoSem.ClaimJoined
import GoSem.ClaimMapViews
import Derived.JoinedTies
import Derived.KernelRfl
namespace Go.Proofs.Ytopfcppmbkidgaa
/- THE CELL 'sum', in the pinned program and in every row, IS THE sha256 OF THE DUMP (.gsa) THAT YtopfcppmbkidgaaProg.lean LOADS. Nothing in Lean hashes anything: it is a label: what it is worth is what the hold of that sum in a sandbox is worth. -/
noncomputable def Try.pinned : Pinned := { name := "ytopfcppmbkidgaa", sum := "cff643a8e22682df60ac5714fe90629dfbde2b8754d7c3982f98117bfc66a38e", checked := Try.checked }
namespace Rows
def none {H : Type} : Left H := { results := [], args := [] }

/-- 'gherkinlaw08.SumsPolynomials': WHATEVER THE INPUT: true; the input reads as it did. -/
def sumsPolynomialsSpec : ChangeSpec := { name := "sumsPolynomials", fn := fun _ => fun
  | [d] => { results := [.lit (.bool true)], args := [d] }
  | _ => none }
def sumsPolynomialsRow : OpenClaim := { program := "ytopfcppmbkidgaa", sum := "cff643a8e22682df60ac5714fe90629dfbde2b8754d7c3982f98117bfc66a38e", func := "gherkin/gherkinlaw08.SumsPolynomials", spec := "sumsPolynomials", unfollowed := true, recurses := true, apart := false }
def SumsPolynomialsSaid : Prop := sumsPolynomialsRow.holds Try.pinned (OpenSpec.ofChange sumsPolynomialsSpec)

/-- ITS FALSE NEIGHBOUR: 'it returns false'. Refute it at one input. -/
def sumsPolynomialsWrong : ChangeSpec := { name := "sumsPolynomials", fn := fun _ => fun
  | [d] => { results := [.lit (.bool false)], args := [d] }
  | _ => none }
def SumsPolynomialsWrongFalsely : Prop := sumsPolynomialsRow.holds Try.pinned (OpenSpec.ofChange sumsPolynomialsWrong)

/-- 'gherkinlaw08.SumsNumbers': WHATEVER THE INPUT: true; the input reads as it did. -/
def sumsNumbersSpec : ChangeSpec := { name := "sumsNumbers", fn := fun _ => fun
  | [d1, d2, d3, d4] => { results := [.lit (.bool true)], args := [d1, d2, d3, d4] }
  | _ => none }
def sumsNumbersRow : OpenClaim := { program := "ytopfcppmbkidgaa", sum := "cff643a8e22682df60ac5714fe90629dfbde2b8754d7c3982f98117bfc66a38e", func := "gherkin/gherkinlaw08.SumsNumbers", spec := "sumsNumbers", unfollowed := true, recurses := true, apart := false }
def SumsNumbersSaid : Prop := sumsNumbersRow.holds Try.pinned (OpenSpec.ofChange sumsNumbersSpec)

/-- ITS FALSE NEIGHBOUR: 'it returns false'. Refute it at one input. -/
def sumsNumbersWrong : ChangeSpec := { name := "sumsNumbers", fn := fun _ => fun
  | [d1, d2, d3, d4] => { results := [.lit (.bool false)], args := [d1, d2, d3, d4] }
  | _ => none }
def SumsNumbersWrongFalsely : Prop := sumsNumbersRow.holds Try.pinned (OpenSpec.ofChange sumsNumbersWrong)

/-- 'gherkinlaw08.SumsNorms': WHATEVER THE INPUT: true; the input reads as it did. -/
def sumsNormsSpec : ChangeSpec := { name := "sumsNorms", fn := fun _ => fun
  | [d1, d2] => { results := [.lit (.bool true)], args := [d1, d2] }
  | _ => none }
def sumsNormsRow : OpenClaim := { program := "ytopfcppmbkidgaa", sum := "cff643a8e22682df60ac5714fe90629dfbde2b8754d7c3982f98117bfc66a38e", func := "gherkin/gherkinlaw08.SumsNorms", spec := "sumsNorms", unfollowed := true, recurses := true, apart := false }
def SumsNormsSaid : Prop := sumsNormsRow.holds Try.pinned (OpenSpec.ofChange sumsNormsSpec)

/-- ITS FALSE NEIGHBOUR: 'it returns false'. Refute it at one input. -/
def sumsNormsWrong : ChangeSpec := { name := "sumsNorms", fn := fun _ => fun
  | [d1, d2] => { results := [.lit (.bool false)], args := [d1, d2] }
  | _ => none }
def SumsNormsWrongFalsely : Prop := sumsNormsRow.holds Try.pinned (OpenSpec.ofChange sumsNormsWrong)

/-- 'gherkinlaw08.SumsSymbols': WHATEVER THE INPUT: true; the input reads as it did. -/
def sumsSymbolsSpec : ChangeSpec := { name := "sumsSymbols", fn := fun _ => fun
  | [d1, d2, d3] => { results := [.lit (.bool true)], args := [d1, d2, d3] }
  | _ => none }
def sumsSymbolsRow : OpenClaim := { program := "ytopfcppmbkidgaa", sum := "cff643a8e22682df60ac5714fe90629dfbde2b8754d7c3982f98117bfc66a38e", func := "gherkin/gherkinlaw08.SumsSymbols", spec := "sumsSymbols", unfollowed := true, recurses := true, apart := false }
def SumsSymbolsSaid : Prop := sumsSymbolsRow.holds Try.pinned (OpenSpec.ofChange sumsSymbolsSpec)

/-- ITS FALSE NEIGHBOUR: 'it returns false'. Refute it at one input. -/
def sumsSymbolsWrong : ChangeSpec := { name := "sumsSymbols", fn := fun _ => fun
  | [d1, d2, d3] => { results := [.lit (.bool false)], args := [d1, d2, d3] }
  | _ => none }
def SumsSymbolsWrongFalsely : Prop := sumsSymbolsRow.holds Try.pinned (OpenSpec.ofChange sumsSymbolsWrong)

/-- 'gherkinlaw08.SumsSigns': WHATEVER THE INPUT: true; the input reads as it did. -/
def sumsSignsSpec : ChangeSpec := { name := "sumsSigns", fn := fun _ => fun
  | [d1, d2, d3, d4] => { results := [.lit (.bool true)], args := [d1, d2, d3, d4] }
  | _ => none }
def sumsSignsRow : OpenClaim := { program := "ytopfcppmbkidgaa", sum := "cff643a8e22682df60ac5714fe90629dfbde2b8754d7c3982f98117bfc66a38e", func := "gherkin/gherkinlaw08.SumsSigns", spec := "sumsSigns", unfollowed := true, recurses := true, apart := false }
def SumsSignsSaid : Prop := sumsSignsRow.holds Try.pinned (OpenSpec.ofChange sumsSignsSpec)

/-- ITS FALSE NEIGHBOUR: 'it returns false'. Refute it at one input. -/
def sumsSignsWrong : ChangeSpec := { name := "sumsSigns", fn := fun _ => fun
  | [d1, d2, d3, d4] => { results := [.lit (.bool false)], args := [d1, d2, d3, d4] }
  | _ => none }
def SumsSignsWrongFalsely : Prop := sumsSignsRow.holds Try.pinned (OpenSpec.ofChange sumsSignsWrong)

/-- 'gherkinlaw08.SumsRoots': WHATEVER THE INPUT: true; the input reads as it did. -/
def sumsRootsSpec : ChangeSpec := { name := "sumsRoots", fn := fun _ => fun
  | [d1, d2] => { results := [.lit (.bool true)], args := [d1, d2] }
  | _ => none }
def sumsRootsRow : OpenClaim := { program := "ytopfcppmbkidgaa", sum := "cff643a8e22682df60ac5714fe90629dfbde2b8754d7c3982f98117bfc66a38e", func := "gherkin/gherkinlaw08.SumsRoots", spec := "sumsRoots", unfollowed := true, recurses := true, apart := false }
def SumsRootsSaid : Prop := sumsRootsRow.holds Try.pinned (OpenSpec.ofChange sumsRootsSpec)

/-- ITS FALSE NEIGHBOUR: 'it returns false'. Refute it at one input. -/
def sumsRootsWrong : ChangeSpec := { name := "sumsRoots", fn := fun _ => fun
  | [d1, d2] => { results := [.lit (.bool false)], args := [d1, d2] }
  | _ => none }
def SumsRootsWrongFalsely : Prop := sumsRootsRow.holds Try.pinned (OpenSpec.ofChange sumsRootsWrong)

/-- 'gherkinlaw08.SumsRing': WHATEVER THE INPUT: true; the input reads as it did. -/
def sumsRingSpec : ChangeSpec := { name := "sumsRing", fn := fun _ => fun
  | [d1, d2, d3, d4, d5] => { results := [.lit (.bool true)], args := [d1, d2, d3, d4, d5] }
  | _ => none }
def sumsRingRow : OpenClaim := { program := "ytopfcppmbkidgaa", sum := "cff643a8e22682df60ac5714fe90629dfbde2b8754d7c3982f98117bfc66a38e", func := "gherkin/gherkinlaw08.SumsRing", spec := "sumsRing", unfollowed := true, recurses := true, apart := false }
def SumsRingSaid : Prop := sumsRingRow.holds Try.pinned (OpenSpec.ofChange sumsRingSpec)

/-- ITS FALSE NEIGHBOUR: 'it returns false'. Refute it at one input. -/
def sumsRingWrong : ChangeSpec := { name := "sumsRing", fn := fun _ => fun
  | [d1, d2, d3, d4, d5] => { results := [.lit (.bool false)], args := [d1, d2, d3, d4, d5] }
  | _ => none }
def SumsRingWrongFalsely : Prop := sumsRingRow.holds Try.pinned (OpenSpec.ofChange sumsRingWrong)

/-- 'gherkinlaw08.SumsMeasures': WHATEVER THE INPUT: true; the input reads as it did. -/
def sumsMeasuresSpec : ChangeSpec := { name := "sumsMeasures", fn := fun _ => fun
  | [d1, d2, d3] => { results := [.lit (.bool true)], args := [d1, d2, d3] }
  | _ => none }
def sumsMeasuresRow : OpenClaim := { program := "ytopfcppmbkidgaa", sum := "cff643a8e22682df60ac5714fe90629dfbde2b8754d7c3982f98117bfc66a38e", func := "gherkin/gherkinlaw08.SumsMeasures", spec := "sumsMeasures", unfollowed := true, recurses := true, apart := false }
def SumsMeasuresSaid : Prop := sumsMeasuresRow.holds Try.pinned (OpenSpec.ofChange sumsMeasuresSpec)

/-- ITS FALSE NEIGHBOUR: 'it returns false'. Refute it at one input. -/
def sumsMeasuresWrong : ChangeSpec := { name := "sumsMeasures", fn := fun _ => fun
  | [d1, d2, d3] => { results := [.lit (.bool false)], args := [d1, d2, d3] }
  | _ => none }
def SumsMeasuresWrongFalsely : Prop := sumsMeasuresRow.holds Try.pinned (OpenSpec.ofChange sumsMeasuresWrong)

/-- 'gherkinlaw08.SumsDegrees': WHATEVER THE INPUT: true; the input reads as it did. -/
def sumsDegreesSpec : ChangeSpec := { name := "sumsDegrees", fn := fun _ => fun
  | [d] => { results := [.lit (.bool true)], args := [d] }
  | _ => none }
def sumsDegreesRow : OpenClaim := { program := "ytopfcppmbkidgaa", sum := "cff643a8e22682df60ac5714fe90629dfbde2b8754d7c3982f98117bfc66a38e", func := "gherkin/gherkinlaw08.SumsDegrees", spec := "sumsDegrees", unfollowed := true, recurses := true, apart := false }
def SumsDegreesSaid : Prop := sumsDegreesRow.holds Try.pinned (OpenSpec.ofChange sumsDegreesSpec)

/-- ITS FALSE NEIGHBOUR: 'it returns false'. Refute it at one input. -/
def sumsDegreesWrong : ChangeSpec := { name := "sumsDegrees", fn := fun _ => fun
  | [d] => { results := [.lit (.bool false)], args := [d] }
  | _ => none }
def SumsDegreesWrongFalsely : Prop := sumsDegreesRow.holds Try.pinned (OpenSpec.ofChange sumsDegreesWrong)

/-- 'gherkinlaw08.SumsGauss': WHATEVER THE INPUT: true; the input reads as it did. -/
def sumsGaussSpec : ChangeSpec := { name := "sumsGauss", fn := fun _ => fun
  | [d1, d2] => { results := [.lit (.bool true)], args := [d1, d2] }
  | _ => none }
def sumsGaussRow : OpenClaim := { program := "ytopfcppmbkidgaa", sum := "cff643a8e22682df60ac5714fe90629dfbde2b8754d7c3982f98117bfc66a38e", func := "gherkin/gherkinlaw08.SumsGauss", spec := "sumsGauss", unfollowed := true, recurses := true, apart := false }
def SumsGaussSaid : Prop := sumsGaussRow.holds Try.pinned (OpenSpec.ofChange sumsGaussSpec)

/-- ITS FALSE NEIGHBOUR: 'it returns false'. Refute it at one input. -/
def sumsGaussWrong : ChangeSpec := { name := "sumsGauss", fn := fun _ => fun
  | [d1, d2] => { results := [.lit (.bool false)], args := [d1, d2] }
  | _ => none }
def SumsGaussWrongFalsely : Prop := sumsGaussRow.holds Try.pinned (OpenSpec.ofChange sumsGaussWrong)

/-- 'gherkinlaw08.SumsReciprocity': WHATEVER THE INPUT: true; the input reads as it did. -/
def sumsReciprocitySpec : ChangeSpec := { name := "sumsReciprocity", fn := fun _ => fun
  | [d1, d2, d3] => { results := [.lit (.bool true)], args := [d1, d2, d3] }
  | _ => none }
def sumsReciprocityRow : OpenClaim := { program := "ytopfcppmbkidgaa", sum := "cff643a8e22682df60ac5714fe90629dfbde2b8754d7c3982f98117bfc66a38e", func := "gherkin/gherkinlaw08.SumsReciprocity", spec := "sumsReciprocity", unfollowed := true, recurses := true, apart := false }
def SumsReciprocitySaid : Prop := sumsReciprocityRow.holds Try.pinned (OpenSpec.ofChange sumsReciprocitySpec)

/-- ITS FALSE NEIGHBOUR: 'it returns false'. Refute it at one input. -/
def sumsReciprocityWrong : ChangeSpec := { name := "sumsReciprocity", fn := fun _ => fun
  | [d1, d2, d3] => { results := [.lit (.bool false)], args := [d1, d2, d3] }
  | _ => none }
def SumsReciprocityWrongFalsely : Prop := sumsReciprocityRow.holds Try.pinned (OpenSpec.ofChange sumsReciprocityWrong)

/-- 'gherkinlaw08.SumsZolotarev': WHATEVER THE INPUT: true; the input reads as it did. -/
def sumsZolotarevSpec : ChangeSpec := { name := "sumsZolotarev", fn := fun _ => fun
  | [d1, d2, d3] => { results := [.lit (.bool true)], args := [d1, d2, d3] }
  | _ => none }
def sumsZolotarevRow : OpenClaim := { program := "ytopfcppmbkidgaa", sum := "cff643a8e22682df60ac5714fe90629dfbde2b8754d7c3982f98117bfc66a38e", func := "gherkin/gherkinlaw08.SumsZolotarev", spec := "sumsZolotarev", unfollowed := true, recurses := true, apart := false }
def SumsZolotarevSaid : Prop := sumsZolotarevRow.holds Try.pinned (OpenSpec.ofChange sumsZolotarevSpec)

/-- ITS FALSE NEIGHBOUR: 'it returns false'. Refute it at one input. -/
def sumsZolotarevWrong : ChangeSpec := { name := "sumsZolotarev", fn := fun _ => fun
  | [d1, d2, d3] => { results := [.lit (.bool false)], args := [d1, d2, d3] }
  | _ => none }
def SumsZolotarevWrongFalsely : Prop := sumsZolotarevRow.holds Try.pinned (OpenSpec.ofChange sumsZolotarevWrong)

/-- 'gherkinlaw08.SumsEisenstein': WHATEVER THE INPUT: true; the input reads as it did. -/
def sumsEisensteinSpec : ChangeSpec := { name := "sumsEisenstein", fn := fun _ => fun
  | [d1, d2] => { results := [.lit (.bool true)], args := [d1, d2] }
  | _ => none }
def sumsEisensteinRow : OpenClaim := { program := "ytopfcppmbkidgaa", sum := "cff643a8e22682df60ac5714fe90629dfbde2b8754d7c3982f98117bfc66a38e", func := "gherkin/gherkinlaw08.SumsEisenstein", spec := "sumsEisenstein", unfollowed := true, recurses := true, apart := false }
def SumsEisensteinSaid : Prop := sumsEisensteinRow.holds Try.pinned (OpenSpec.ofChange sumsEisensteinSpec)

/-- ITS FALSE NEIGHBOUR: 'it returns false'. Refute it at one input. -/
def sumsEisensteinWrong : ChangeSpec := { name := "sumsEisenstein", fn := fun _ => fun
  | [d1, d2] => { results := [.lit (.bool false)], args := [d1, d2] }
  | _ => none }
def SumsEisensteinWrongFalsely : Prop := sumsEisensteinRow.holds Try.pinned (OpenSpec.ofChange sumsEisensteinWrong)

/-- 'gherkinlaw08.SumsSquares': WHATEVER THE INPUT: true; the input reads as it did. -/
def sumsSquaresSpec : ChangeSpec := { name := "sumsSquares", fn := fun _ => fun
  | [d1, d2] => { results := [.lit (.bool true)], args := [d1, d2] }
  | _ => none }
def sumsSquaresRow : OpenClaim := { program := "ytopfcppmbkidgaa", sum := "cff643a8e22682df60ac5714fe90629dfbde2b8754d7c3982f98117bfc66a38e", func := "gherkin/gherkinlaw08.SumsSquares", spec := "sumsSquares", unfollowed := true, recurses := true, apart := false }
def SumsSquaresSaid : Prop := sumsSquaresRow.holds Try.pinned (OpenSpec.ofChange sumsSquaresSpec)

/-- ITS FALSE NEIGHBOUR: 'it returns false'. Refute it at one input. -/
def sumsSquaresWrong : ChangeSpec := { name := "sumsSquares", fn := fun _ => fun
  | [d1, d2] => { results := [.lit (.bool false)], args := [d1, d2] }
  | _ => none }
def SumsSquaresWrongFalsely : Prop := sumsSquaresRow.holds Try.pinned (OpenSpec.ofChange sumsSquaresWrong)

/- THE SECOND FORM. 'bulk': how many values and letters a reading holds, each counted each time it is reached (what is shared counts as often as it is met; a slice's spare places count too). A statement '..UptoSaid' is the law's where the arguments, and the package variables that the reading takes, are together of bulk at most 1048576: NARROWER than '..Said'. Prove '..Said' where nothing that the law and all that it calls make is longer than what came in: it says more and counts as full. Else prove '..UptoSaid'. A law counts once. -/
mutual
def uptoBulk {H : Type} : DataW H → Nat
  | .lit (.string bytes) => bytes.length + 1
  | .lit _ => 1
  | .nil => 1
  | .ptr d => uptoBulk d + 1
  | .slice elems spare => uptoBulkAll elems + uptoBulkAll spare + 1
  | .agg parts => uptoBulkAll parts + 1
  | .iface _ d => uptoBulk d + 1
  | .map entries => uptoBulkEntries entries + 1
  | .held _ => 1
def uptoBulkAll {H : Type} : List (DataW H) → Nat
  | [] => 0
  | d :: r => uptoBulk d + uptoBulkAll r
def uptoBulkEntries {H : Type} : List (Lit × DataW H) → Nat
  | [] => 0
  | x :: r => uptoBulkEntry x + uptoBulkEntries r
def uptoBulkEntry {H : Type} : Lit × DataW H → Nat
  | (.string bytes, d) => bytes.length + uptoBulk d + 1
  | (_, d) => uptoBulk d + 1
 end
def uptoSmall : (H : Type) → List (DataW H) → Bool := fun _ ds => decide (uptoBulkAll ds ≤ 1048576)
def OpenSpec.upto (s : _root_.Go.ChangeSpec) : _root_.Go.OpenSpec := { _root_.Go.OpenSpec.ofChange s with cond := some uptoSmall }

/-- 'gherkinlaw08.SumsPolynomials', WHERE WHAT IT READS IS OF BULK AT MOST 1048576: true; the input reads as it did. -/
def sumsPolynomialsUptoRow : OpenClaim := { program := "ytopfcppmbkidgaa", sum := "cff643a8e22682df60ac5714fe90629dfbde2b8754d7c3982f98117bfc66a38e", func := "gherkin/gherkinlaw08.SumsPolynomials", spec := "sumsPolynomials", unfollowed := true, recurses := true, apart := false, narrowed := true }
def SumsPolynomialsUptoSaid : Prop := sumsPolynomialsUptoRow.holds Try.pinned (OpenSpec.upto sumsPolynomialsSpec)

/-- 'gherkinlaw08.SumsNumbers', WHERE WHAT IT READS IS OF BULK AT MOST 1048576: true; the input reads as it did. -/
def sumsNumbersUptoRow : OpenClaim := { program := "ytopfcppmbkidgaa", sum := "cff643a8e22682df60ac5714fe90629dfbde2b8754d7c3982f98117bfc66a38e", func := "gherkin/gherkinlaw08.SumsNumbers", spec := "sumsNumbers", unfollowed := true, recurses := true, apart := false, narrowed := true }
def SumsNumbersUptoSaid : Prop := sumsNumbersUptoRow.holds Try.pinned (OpenSpec.upto sumsNumbersSpec)

/-- 'gherkinlaw08.SumsNorms', WHERE WHAT IT READS IS OF BULK AT MOST 1048576: true; the input reads as it did. -/
def sumsNormsUptoRow : OpenClaim := { program := "ytopfcppmbkidgaa", sum := "cff643a8e22682df60ac5714fe90629dfbde2b8754d7c3982f98117bfc66a38e", func := "gherkin/gherkinlaw08.SumsNorms", spec := "sumsNorms", unfollowed := true, recurses := true, apart := false, narrowed := true }
def SumsNormsUptoSaid : Prop := sumsNormsUptoRow.holds Try.pinned (OpenSpec.upto sumsNormsSpec)

/-- 'gherkinlaw08.SumsSymbols', WHERE WHAT IT READS IS OF BULK AT MOST 1048576: true; the input reads as it did. -/
def sumsSymbolsUptoRow : OpenClaim := { program := "ytopfcppmbkidgaa", sum := "cff643a8e22682df60ac5714fe90629dfbde2b8754d7c3982f98117bfc66a38e", func := "gherkin/gherkinlaw08.SumsSymbols", spec := "sumsSymbols", unfollowed := true, recurses := true, apart := false, narrowed := true }
def SumsSymbolsUptoSaid : Prop := sumsSymbolsUptoRow.holds Try.pinned (OpenSpec.upto sumsSymbolsSpec)

/-- 'gherkinlaw08.SumsSigns', WHERE WHAT IT READS IS OF BULK AT MOST 1048576: true; the input reads as it did. -/
def sumsSignsUptoRow : OpenClaim := { program := "ytopfcppmbkidgaa", sum := "cff643a8e22682df60ac5714fe90629dfbde2b8754d7c3982f98117bfc66a38e", func := "gherkin/gherkinlaw08.SumsSigns", spec := "sumsSigns", unfollowed := true, recurses := true, apart := false, narrowed := true }
def SumsSignsUptoSaid : Prop := sumsSignsUptoRow.holds Try.pinned (OpenSpec.upto sumsSignsSpec)

/-- 'gherkinlaw08.SumsRoots', WHERE WHAT IT READS IS OF BULK AT MOST 1048576: true; the input reads as it did. -/
def sumsRootsUptoRow : OpenClaim := { program := "ytopfcppmbkidgaa", sum := "cff643a8e22682df60ac5714fe90629dfbde2b8754d7c3982f98117bfc66a38e", func := "gherkin/gherkinlaw08.SumsRoots", spec := "sumsRoots", unfollowed := true, recurses := true, apart := false, narrowed := true }
def SumsRootsUptoSaid : Prop := sumsRootsUptoRow.holds Try.pinned (OpenSpec.upto sumsRootsSpec)

/-- 'gherkinlaw08.SumsRing', WHERE WHAT IT READS IS OF BULK AT MOST 1048576: true; the input reads as it did. -/
def sumsRingUptoRow : OpenClaim := { program := "ytopfcppmbkidgaa", sum := "cff643a8e22682df60ac5714fe90629dfbde2b8754d7c3982f98117bfc66a38e", func := "gherkin/gherkinlaw08.SumsRing", spec := "sumsRing", unfollowed := true, recurses := true, apart := false, narrowed := true }
def SumsRingUptoSaid : Prop := sumsRingUptoRow.holds Try.pinned (OpenSpec.upto sumsRingSpec)

/-- 'gherkinlaw08.SumsMeasures', WHERE WHAT IT READS IS OF BULK AT MOST 1048576: true; the input reads as it did. -/
def sumsMeasuresUptoRow : OpenClaim := { program := "ytopfcppmbkidgaa", sum := "cff643a8e22682df60ac5714fe90629dfbde2b8754d7c3982f98117bfc66a38e", func := "gherkin/gherkinlaw08.SumsMeasures", spec := "sumsMeasures", unfollowed := true, recurses := true, apart := false, narrowed := true }
def SumsMeasuresUptoSaid : Prop := sumsMeasuresUptoRow.holds Try.pinned (OpenSpec.upto sumsMeasuresSpec)

/-- 'gherkinlaw08.SumsDegrees', WHERE WHAT IT READS IS OF BULK AT MOST 1048576: true; the input reads as it did. -/
def sumsDegreesUptoRow : OpenClaim := { program := "ytopfcppmbkidgaa", sum := "cff643a8e22682df60ac5714fe90629dfbde2b8754d7c3982f98117bfc66a38e", func := "gherkin/gherkinlaw08.SumsDegrees", spec := "sumsDegrees", unfollowed := true, recurses := true, apart := false, narrowed := true }
def SumsDegreesUptoSaid : Prop := sumsDegreesUptoRow.holds Try.pinned (OpenSpec.upto sumsDegreesSpec)

/-- 'gherkinlaw08.SumsGauss', WHERE WHAT IT READS IS OF BULK AT MOST 1048576: true; the input reads as it did. -/
def sumsGaussUptoRow : OpenClaim := { program := "ytopfcppmbkidgaa", sum := "cff643a8e22682df60ac5714fe90629dfbde2b8754d7c3982f98117bfc66a38e", func := "gherkin/gherkinlaw08.SumsGauss", spec := "sumsGauss", unfollowed := true, recurses := true, apart := false, narrowed := true }
def SumsGaussUptoSaid : Prop := sumsGaussUptoRow.holds Try.pinned (OpenSpec.upto sumsGaussSpec)

/-- 'gherkinlaw08.SumsReciprocity', WHERE WHAT IT READS IS OF BULK AT MOST 1048576: true; the input reads as it did. -/
def sumsReciprocityUptoRow : OpenClaim := { program := "ytopfcppmbkidgaa", sum := "cff643a8e22682df60ac5714fe90629dfbde2b8754d7c3982f98117bfc66a38e", func := "gherkin/gherkinlaw08.SumsReciprocity", spec := "sumsReciprocity", unfollowed := true, recurses := true, apart := false, narrowed := true }
def SumsReciprocityUptoSaid : Prop := sumsReciprocityUptoRow.holds Try.pinned (OpenSpec.upto sumsReciprocitySpec)

/-- 'gherkinlaw08.SumsZolotarev', WHERE WHAT IT READS IS OF BULK AT MOST 1048576: true; the input reads as it did. -/
def sumsZolotarevUptoRow : OpenClaim := { program := "ytopfcppmbkidgaa", sum := "cff643a8e22682df60ac5714fe90629dfbde2b8754d7c3982f98117bfc66a38e", func := "gherkin/gherkinlaw08.SumsZolotarev", spec := "sumsZolotarev", unfollowed := true, recurses := true, apart := false, narrowed := true }
def SumsZolotarevUptoSaid : Prop := sumsZolotarevUptoRow.holds Try.pinned (OpenSpec.upto sumsZolotarevSpec)

/-- 'gherkinlaw08.SumsEisenstein', WHERE WHAT IT READS IS OF BULK AT MOST 1048576: true; the input reads as it did. -/
def sumsEisensteinUptoRow : OpenClaim := { program := "ytopfcppmbkidgaa", sum := "cff643a8e22682df60ac5714fe90629dfbde2b8754d7c3982f98117bfc66a38e", func := "gherkin/gherkinlaw08.SumsEisenstein", spec := "sumsEisenstein", unfollowed := true, recurses := true, apart := false, narrowed := true }
def SumsEisensteinUptoSaid : Prop := sumsEisensteinUptoRow.holds Try.pinned (OpenSpec.upto sumsEisensteinSpec)

/-- 'gherkinlaw08.SumsSquares', WHERE WHAT IT READS IS OF BULK AT MOST 1048576: true; the input reads as it did. -/
def sumsSquaresUptoRow : OpenClaim := { program := "ytopfcppmbkidgaa", sum := "cff643a8e22682df60ac5714fe90629dfbde2b8754d7c3982f98117bfc66a38e", func := "gherkin/gherkinlaw08.SumsSquares", spec := "sumsSquares", unfollowed := true, recurses := true, apart := false, narrowed := true }
def SumsSquaresUptoSaid : Prop := sumsSquaresUptoRow.holds Try.pinned (OpenSpec.upto sumsSquaresSpec)

end Rows
end Go.Proofs.Ytopfcppmbkidgaa
