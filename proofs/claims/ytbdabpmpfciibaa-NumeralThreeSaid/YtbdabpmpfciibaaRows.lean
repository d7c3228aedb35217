/-
  No cell of these rows narrows 'for every input' (looked for: loops, veiled, ifaces, maps, wideKeys, modest, calm, conditions, laid).
  DERIVED. THE GIVEN ROWS OF THIS SEAT. 16 by the template 'for every input the law returns true; each argument reads behind the call as it read before'; 0 by the template 'total and deterministic' (their statements: YtbdabpmpfciibaaTotals.lean).
  GIVEN WITH THE SEED: the statements are not yours to turn. If you find one false, say at which input.
  Laid BY PROGRAM, IN A SANDBOX (cutbox-rows.mjs): the forced cells as the released guide's own fill.sh prints them over the translation bfea6ff84f905471… (all of the seat's roots in one cut). By AI agents, Wed Nov 11 2026. No macro, syntax, notation, axiom, sorry.
-/
import Derived.Test.YtbdabpmpfciibaaChecked
import GoSem.Claim
import GoSem.ClaimJoined
import GoSem.ClaimMapViews
import Derived.JoinedTies
import Derived.KernelRfl
namespace Go.Proofs.Ytbdabpmpfciibaa
/- THE CELL 'sum', in the pinned program and in every row, IS THE sha256 OF THE DUMP (.gsa) THAT YtbdabpmpfciibaaProg.lean LOADS. Nothing in Lean hashes anything: it is a label: what it is worth is what the hold of that sum in a sandbox is worth. -/
noncomputable def Try.pinned : Pinned := { name := "ytbdabpmpfciibaa", sum := "bfea6ff84f905471786e66daf8df82d9d15e471d090641f80311b5a60ea8c88f", checked := Try.checked }
namespace Rows
def none {H : Type} : Left H := { results := [], args := [] }

/-- 'gherkinlaw03.NumeralCodes': WHATEVER THE INPUT: true; the input reads as it did. -/
def numeralCodesSpec : ChangeSpec := { name := "numeralCodes", fn := fun _ => fun
  | [d1, d2] => { results := [.lit (.bool true)], args := [d1, d2] }
  | _ => none }
def numeralCodesRow : OpenClaim := { program := "ytbdabpmpfciibaa", sum := "bfea6ff84f905471786e66daf8df82d9d15e471d090641f80311b5a60ea8c88f", func := "gherkin/gherkinlaw03.NumeralCodes", spec := "numeralCodes", apart := false }
def NumeralCodesSaid : Prop := numeralCodesRow.holds Try.pinned (OpenSpec.ofChange numeralCodesSpec)

/-- ITS FALSE NEIGHBOUR: 'it returns false'. Refute it at one input. -/
def numeralCodesWrong : ChangeSpec := { name := "numeralCodes", fn := fun _ => fun
  | [d1, d2] => { results := [.lit (.bool false)], args := [d1, d2] }
  | _ => none }
def NumeralCodesWrongFalsely : Prop := numeralCodesRow.holds Try.pinned (OpenSpec.ofChange numeralCodesWrong)

/-- 'gherkinlaw03.NumeralAdds': WHATEVER THE INPUT: true; the input reads as it did. -/
def numeralAddsSpec : ChangeSpec := { name := "numeralAdds", fn := fun _ => fun
  | [d1, d2] => { results := [.lit (.bool true)], args := [d1, d2] }
  | _ => none }
def numeralAddsRow : OpenClaim := { program := "ytbdabpmpfciibaa", sum := "bfea6ff84f905471786e66daf8df82d9d15e471d090641f80311b5a60ea8c88f", func := "gherkin/gherkinlaw03.NumeralAdds", spec := "numeralAdds", apart := false }
def NumeralAddsSaid : Prop := numeralAddsRow.holds Try.pinned (OpenSpec.ofChange numeralAddsSpec)

/-- ITS FALSE NEIGHBOUR: 'it returns false'. Refute it at one input. -/
def numeralAddsWrong : ChangeSpec := { name := "numeralAdds", fn := fun _ => fun
  | [d1, d2] => { results := [.lit (.bool false)], args := [d1, d2] }
  | _ => none }
def NumeralAddsWrongFalsely : Prop := numeralAddsRow.holds Try.pinned (OpenSpec.ofChange numeralAddsWrong)

/-- 'gherkinlaw03.NumeralShifts': WHATEVER THE INPUT: true; the input reads as it did. -/
def numeralShiftsSpec : ChangeSpec := { name := "numeralShifts", fn := fun _ => fun
  | [d1, d2] => { results := [.lit (.bool true)], args := [d1, d2] }
  | _ => none }
def numeralShiftsRow : OpenClaim := { program := "ytbdabpmpfciibaa", sum := "bfea6ff84f905471786e66daf8df82d9d15e471d090641f80311b5a60ea8c88f", func := "gherkin/gherkinlaw03.NumeralShifts", spec := "numeralShifts", apart := false }
def NumeralShiftsSaid : Prop := numeralShiftsRow.holds Try.pinned (OpenSpec.ofChange numeralShiftsSpec)

/-- ITS FALSE NEIGHBOUR: 'it returns false'. Refute it at one input. -/
def numeralShiftsWrong : ChangeSpec := { name := "numeralShifts", fn := fun _ => fun
  | [d1, d2] => { results := [.lit (.bool false)], args := [d1, d2] }
  | _ => none }
def NumeralShiftsWrongFalsely : Prop := numeralShiftsRow.holds Try.pinned (OpenSpec.ofChange numeralShiftsWrong)

/-- 'gherkinlaw03.NumeralWords': WHATEVER THE INPUT: true; the input reads as it did. -/
def numeralWordsSpec : ChangeSpec := { name := "numeralWords", fn := fun _ => fun
  | [d] => { results := [.lit (.bool true)], args := [d] }
  | _ => none }
def numeralWordsRow : OpenClaim := { program := "ytbdabpmpfciibaa", sum := "bfea6ff84f905471786e66daf8df82d9d15e471d090641f80311b5a60ea8c88f", func := "gherkin/gherkinlaw03.NumeralWords", spec := "numeralWords", apart := false }
def NumeralWordsSaid : Prop := numeralWordsRow.holds Try.pinned (OpenSpec.ofChange numeralWordsSpec)

/-- ITS FALSE NEIGHBOUR: 'it returns false'. Refute it at one input. -/
def numeralWordsWrong : ChangeSpec := { name := "numeralWords", fn := fun _ => fun
  | [d] => { results := [.lit (.bool false)], args := [d] }
  | _ => none }
def NumeralWordsWrongFalsely : Prop := numeralWordsRow.holds Try.pinned (OpenSpec.ofChange numeralWordsWrong)

/-- 'gherkinlaw03.NumeralCold': WHATEVER THE INPUT: true; the input reads as it did. -/
def numeralColdSpec : ChangeSpec := { name := "numeralCold", fn := fun _ => fun
  | [d1, d2, d3] => { results := [.lit (.bool true)], args := [d1, d2, d3] }
  | _ => none }
def numeralColdRow : OpenClaim := { program := "ytbdabpmpfciibaa", sum := "bfea6ff84f905471786e66daf8df82d9d15e471d090641f80311b5a60ea8c88f", func := "gherkin/gherkinlaw03.NumeralCold", spec := "numeralCold", unfollowed := true, recurses := true, apart := false }
def NumeralColdSaid : Prop := numeralColdRow.holds Try.pinned (OpenSpec.ofChange numeralColdSpec)

/-- ITS FALSE NEIGHBOUR: 'it returns false'. Refute it at one input. -/
def numeralColdWrong : ChangeSpec := { name := "numeralCold", fn := fun _ => fun
  | [d1, d2, d3] => { results := [.lit (.bool false)], args := [d1, d2, d3] }
  | _ => none }
def NumeralColdWrongFalsely : Prop := numeralColdRow.holds Try.pinned (OpenSpec.ofChange numeralColdWrong)

/-- 'gherkinlaw03.NumeralDigits': WHATEVER THE INPUT: true; the input reads as it did. -/
def numeralDigitsSpec : ChangeSpec := { name := "numeralDigits", fn := fun _ => fun
  | [d1, d2, d3] => { results := [.lit (.bool true)], args := [d1, d2, d3] }
  | _ => none }
def numeralDigitsRow : OpenClaim := { program := "ytbdabpmpfciibaa", sum := "bfea6ff84f905471786e66daf8df82d9d15e471d090641f80311b5a60ea8c88f", func := "gherkin/gherkinlaw03.NumeralDigits", spec := "numeralDigits", apart := false }
def NumeralDigitsSaid : Prop := numeralDigitsRow.holds Try.pinned (OpenSpec.ofChange numeralDigitsSpec)

/-- ITS FALSE NEIGHBOUR: 'it returns false'. Refute it at one input. -/
def numeralDigitsWrong : ChangeSpec := { name := "numeralDigits", fn := fun _ => fun
  | [d1, d2, d3] => { results := [.lit (.bool false)], args := [d1, d2, d3] }
  | _ => none }
def NumeralDigitsWrongFalsely : Prop := numeralDigitsRow.holds Try.pinned (OpenSpec.ofChange numeralDigitsWrong)

/-- 'gherkinlaw03.NumeralGaps': WHATEVER THE INPUT: true; the input reads as it did. -/
def numeralGapsSpec : ChangeSpec := { name := "numeralGaps", fn := fun _ => fun
  | [d1, d2, d3] => { results := [.lit (.bool true)], args := [d1, d2, d3] }
  | _ => none }
def numeralGapsRow : OpenClaim := { program := "ytbdabpmpfciibaa", sum := "bfea6ff84f905471786e66daf8df82d9d15e471d090641f80311b5a60ea8c88f", func := "gherkin/gherkinlaw03.NumeralGaps", spec := "numeralGaps", unfollowed := true, recurses := true, apart := false }
def NumeralGapsSaid : Prop := numeralGapsRow.holds Try.pinned (OpenSpec.ofChange numeralGapsSpec)

/-- ITS FALSE NEIGHBOUR: 'it returns false'. Refute it at one input. -/
def numeralGapsWrong : ChangeSpec := { name := "numeralGaps", fn := fun _ => fun
  | [d1, d2, d3] => { results := [.lit (.bool false)], args := [d1, d2, d3] }
  | _ => none }
def NumeralGapsWrongFalsely : Prop := numeralGapsRow.holds Try.pinned (OpenSpec.ofChange numeralGapsWrong)

/-- 'gherkinlaw03.NumeralBack': WHATEVER THE INPUT: true; the input reads as it did. -/
def numeralBackSpec : ChangeSpec := { name := "numeralBack", fn := fun _ => fun
  | [d1, d2, d3] => { results := [.lit (.bool true)], args := [d1, d2, d3] }
  | _ => none }
def numeralBackRow : OpenClaim := { program := "ytbdabpmpfciibaa", sum := "bfea6ff84f905471786e66daf8df82d9d15e471d090641f80311b5a60ea8c88f", func := "gherkin/gherkinlaw03.NumeralBack", spec := "numeralBack", apart := false }
def NumeralBackSaid : Prop := numeralBackRow.holds Try.pinned (OpenSpec.ofChange numeralBackSpec)

/-- ITS FALSE NEIGHBOUR: 'it returns false'. Refute it at one input. -/
def numeralBackWrong : ChangeSpec := { name := "numeralBack", fn := fun _ => fun
  | [d1, d2, d3] => { results := [.lit (.bool false)], args := [d1, d2, d3] }
  | _ => none }
def NumeralBackWrongFalsely : Prop := numeralBackRow.holds Try.pinned (OpenSpec.ofChange numeralBackWrong)

/-- 'gherkinlaw03.NumeralGolden': WHATEVER THE INPUT: true; the input reads as it did. -/
def numeralGoldenSpec : ChangeSpec := { name := "numeralGolden", fn := fun _ => fun
  | [d] => { results := [.lit (.bool true)], args := [d] }
  | _ => none }
def numeralGoldenRow : OpenClaim := { program := "ytbdabpmpfciibaa", sum := "bfea6ff84f905471786e66daf8df82d9d15e471d090641f80311b5a60ea8c88f", func := "gherkin/gherkinlaw03.NumeralGolden", spec := "numeralGolden", apart := false }
def NumeralGoldenSaid : Prop := numeralGoldenRow.holds Try.pinned (OpenSpec.ofChange numeralGoldenSpec)

/-- ITS FALSE NEIGHBOUR: 'it returns false'. Refute it at one input. -/
def numeralGoldenWrong : ChangeSpec := { name := "numeralGolden", fn := fun _ => fun
  | [d] => { results := [.lit (.bool false)], args := [d] }
  | _ => none }
def NumeralGoldenWrongFalsely : Prop := numeralGoldenRow.holds Try.pinned (OpenSpec.ofChange numeralGoldenWrong)

/-- 'gherkinlaw03.NumeralCircles': WHATEVER THE INPUT: true; the input reads as it did. -/
def numeralCirclesSpec : ChangeSpec := { name := "numeralCircles", fn := fun _ => fun
  | [d1, d2, d3] => { results := [.lit (.bool true)], args := [d1, d2, d3] }
  | _ => none }
def numeralCirclesRow : OpenClaim := { program := "ytbdabpmpfciibaa", sum := "bfea6ff84f905471786e66daf8df82d9d15e471d090641f80311b5a60ea8c88f", func := "gherkin/gherkinlaw03.NumeralCircles", spec := "numeralCircles", apart := false }
def NumeralCirclesSaid : Prop := numeralCirclesRow.holds Try.pinned (OpenSpec.ofChange numeralCirclesSpec)

/-- ITS FALSE NEIGHBOUR: 'it returns false'. Refute it at one input. -/
def numeralCirclesWrong : ChangeSpec := { name := "numeralCircles", fn := fun _ => fun
  | [d1, d2, d3] => { results := [.lit (.bool false)], args := [d1, d2, d3] }
  | _ => none }
def NumeralCirclesWrongFalsely : Prop := numeralCirclesRow.holds Try.pinned (OpenSpec.ofChange numeralCirclesWrong)

/-- 'gherkinlaw03.NumeralGame': WHATEVER THE INPUT: true; the input reads as it did. -/
def numeralGameSpec : ChangeSpec := { name := "numeralGame", fn := fun _ => fun
  | [d1, d2, d3] => { results := [.lit (.bool true)], args := [d1, d2, d3] }
  | _ => none }
def numeralGameRow : OpenClaim := { program := "ytbdabpmpfciibaa", sum := "bfea6ff84f905471786e66daf8df82d9d15e471d090641f80311b5a60ea8c88f", func := "gherkin/gherkinlaw03.NumeralGame", spec := "numeralGame", unfollowed := true, recurses := true, apart := false }
def NumeralGameSaid : Prop := numeralGameRow.holds Try.pinned (OpenSpec.ofChange numeralGameSpec)

/-- ITS FALSE NEIGHBOUR: 'it returns false'. Refute it at one input. -/
def numeralGameWrong : ChangeSpec := { name := "numeralGame", fn := fun _ => fun
  | [d1, d2, d3] => { results := [.lit (.bool false)], args := [d1, d2, d3] }
  | _ => none }
def NumeralGameWrongFalsely : Prop := numeralGameRow.holds Try.pinned (OpenSpec.ofChange numeralGameWrong)

/-- 'gherkinlaw03.NumeralPairs': WHATEVER THE INPUT: true; the input reads as it did. -/
def numeralPairsSpec : ChangeSpec := { name := "numeralPairs", fn := fun _ => fun
  | [d] => { results := [.lit (.bool true)], args := [d] }
  | _ => none }
def numeralPairsRow : OpenClaim := { program := "ytbdabpmpfciibaa", sum := "bfea6ff84f905471786e66daf8df82d9d15e471d090641f80311b5a60ea8c88f", func := "gherkin/gherkinlaw03.NumeralPairs", spec := "numeralPairs", apart := false }
def NumeralPairsSaid : Prop := numeralPairsRow.holds Try.pinned (OpenSpec.ofChange numeralPairsSpec)

/-- ITS FALSE NEIGHBOUR: 'it returns false'. Refute it at one input. -/
def numeralPairsWrong : ChangeSpec := { name := "numeralPairs", fn := fun _ => fun
  | [d] => { results := [.lit (.bool false)], args := [d] }
  | _ => none }
def NumeralPairsWrongFalsely : Prop := numeralPairsRow.holds Try.pinned (OpenSpec.ofChange numeralPairsWrong)

/-- 'gherkinlaw03.NumeralAlong': WHATEVER THE INPUT: true; the input reads as it did. -/
def numeralAlongSpec : ChangeSpec := { name := "numeralAlong", fn := fun _ => fun
  | [d1, d2, d3] => { results := [.lit (.bool true)], args := [d1, d2, d3] }
  | _ => none }
def numeralAlongRow : OpenClaim := { program := "ytbdabpmpfciibaa", sum := "bfea6ff84f905471786e66daf8df82d9d15e471d090641f80311b5a60ea8c88f", func := "gherkin/gherkinlaw03.NumeralAlong", spec := "numeralAlong", apart := false }
def NumeralAlongSaid : Prop := numeralAlongRow.holds Try.pinned (OpenSpec.ofChange numeralAlongSpec)

/-- ITS FALSE NEIGHBOUR: 'it returns false'. Refute it at one input. -/
def numeralAlongWrong : ChangeSpec := { name := "numeralAlong", fn := fun _ => fun
  | [d1, d2, d3] => { results := [.lit (.bool false)], args := [d1, d2, d3] }
  | _ => none }
def NumeralAlongWrongFalsely : Prop := numeralAlongRow.holds Try.pinned (OpenSpec.ofChange numeralAlongWrong)

/-- 'gherkinlaw03.NumeralThree': WHATEVER THE INPUT: true; the input reads as it did. -/
def numeralThreeSpec : ChangeSpec := { name := "numeralThree", fn := fun _ => fun
  | [d1, d2, d3] => { results := [.lit (.bool true)], args := [d1, d2, d3] }
  | _ => none }
def numeralThreeRow : OpenClaim := { program := "ytbdabpmpfciibaa", sum := "bfea6ff84f905471786e66daf8df82d9d15e471d090641f80311b5a60ea8c88f", func := "gherkin/gherkinlaw03.NumeralThree", spec := "numeralThree", unfollowed := true, recurses := true, apart := false }
def NumeralThreeSaid : Prop := numeralThreeRow.holds Try.pinned (OpenSpec.ofChange numeralThreeSpec)

/-- ITS FALSE NEIGHBOUR: 'it returns false'. Refute it at one input. -/
def numeralThreeWrong : ChangeSpec := { name := "numeralThree", fn := fun _ => fun
  | [d1, d2, d3] => { results := [.lit (.bool false)], args := [d1, d2, d3] }
  | _ => none }
def NumeralThreeWrongFalsely : Prop := numeralThreeRow.holds Try.pinned (OpenSpec.ofChange numeralThreeWrong)

/-- 'gherkintop.TopGolden': WHATEVER THE INPUT: true; the input reads as it did. -/
def topGoldenSpec : ChangeSpec := { name := "topGolden", fn := fun _ => fun
  | [d] => { results := [.lit (.bool true)], args := [d] }
  | _ => none }
def topGoldenRow : OpenClaim := { program := "ytbdabpmpfciibaa", sum := "bfea6ff84f905471786e66daf8df82d9d15e471d090641f80311b5a60ea8c88f", func := "gherkin/gherkintop.TopGolden", spec := "topGolden", unfollowed := true, recurses := true, apart := false }
def TopGoldenSaid : Prop := topGoldenRow.holds Try.pinned (OpenSpec.ofChange topGoldenSpec)

/-- ITS FALSE NEIGHBOUR: 'it returns false'. Refute it at one input. -/
def topGoldenWrong : ChangeSpec := { name := "topGolden", fn := fun _ => fun
  | [d] => { results := [.lit (.bool false)], args := [d] }
  | _ => none }
def TopGoldenWrongFalsely : Prop := topGoldenRow.holds Try.pinned (OpenSpec.ofChange topGoldenWrong)

/-- 'gherkintop.TopUnder': WHATEVER THE INPUT: true; the input reads as it did. -/
def topUnderSpec : ChangeSpec := { name := "topUnder", fn := fun _ => fun
  | [d1, d2] => { results := [.lit (.bool true)], args := [d1, d2] }
  | _ => none }
def topUnderRow : OpenClaim := { program := "ytbdabpmpfciibaa", sum := "bfea6ff84f905471786e66daf8df82d9d15e471d090641f80311b5a60ea8c88f", func := "gherkin/gherkintop.TopUnder", spec := "topUnder", unfollowed := true, recurses := true, apart := false }
def TopUnderSaid : Prop := topUnderRow.holds Try.pinned (OpenSpec.ofChange topUnderSpec)

/-- ITS FALSE NEIGHBOUR: 'it returns false'. Refute it at one input. -/
def topUnderWrong : ChangeSpec := { name := "topUnder", fn := fun _ => fun
  | [d1, d2] => { results := [.lit (.bool false)], args := [d1, d2] }
  | _ => none }
def TopUnderWrongFalsely : Prop := topUnderRow.holds Try.pinned (OpenSpec.ofChange topUnderWrong)

/- THE SECOND FORM. 'bulk': how many values and letters a reading holds, each counted each time it is reached (what is shared counts as often as it is met; a slice's spare places count too). A statement '..UptoSaid' is the law's where the arguments, and the package variables that the reading takes, are together of bulk at most 1048576: NARROWER than '..Said'. Prove '..Said' where nothing that the law and all that it calls make is longer than what came in: it says more and counts as full. Else prove '..UptoSaid'. A law counts once. -/
mutual
def uptoBulk {H : Type} : DataW H → Nat
  | .lit (.string bytes) => bytes.length + 1
  | .lit _ => 1
  | .nil => 1
  | .ptr d => uptoBulk d + 1
  | .slice elems spare => uptoBulkAll elems + uptoBulkAll spare + 1
  | .agg parts => uptoBulkAll parts + 1
  | .iface _ d => uptoBulk d + 1
  | .map entries => uptoBulkEntries entries + 1
  | .held _ => 1
def uptoBulkAll {H : Type} : List (DataW H) → Nat
  | [] => 0
  | d :: r => uptoBulk d + uptoBulkAll r
def uptoBulkEntries {H : Type} : List (Lit × DataW H) → Nat
  | [] => 0
  | x :: r => uptoBulkEntry x + uptoBulkEntries r
def uptoBulkEntry {H : Type} : Lit × DataW H → Nat
  | (.string bytes, d) => bytes.length + uptoBulk d + 1
  | (_, d) => uptoBulk d + 1
 end
def uptoSmall : (H : Type) → List (DataW H) → Bool := fun _ ds => decide (uptoBulkAll ds ≤ 1048576)
def OpenSpec.upto (s : _root_.Go.ChangeSpec) : _root_.Go.OpenSpec := { _root_.Go.OpenSpec.ofChange s with cond := some uptoSmall }

/-- 'gherkinlaw03.NumeralCodes', WHERE WHAT IT READS IS OF BULK AT MOST 1048576: true; the input reads as it did. -/
def numeralCodesUptoRow : OpenClaim := { program := "ytbdabpmpfciibaa", sum := "bfea6ff84f905471786e66daf8df82d9d15e471d090641f80311b5a60ea8c88f", func := "gherkin/gherkinlaw03.NumeralCodes", spec := "numeralCodes", apart := false, narrowed := true }
def NumeralCodesUptoSaid : Prop := numeralCodesUptoRow.holds Try.pinned (OpenSpec.upto numeralCodesSpec)

/-- 'gherkinlaw03.NumeralAdds', WHERE WHAT IT READS IS OF BULK AT MOST 1048576: true; the input reads as it did. -/
def numeralAddsUptoRow : OpenClaim := { program := "ytbdabpmpfciibaa", sum := "bfea6ff84f905471786e66daf8df82d9d15e471d090641f80311b5a60ea8c88f", func := "gherkin/gherkinlaw03.NumeralAdds", spec := "numeralAdds", apart := false, narrowed := true }
def NumeralAddsUptoSaid : Prop := numeralAddsUptoRow.holds Try.pinned (OpenSpec.upto numeralAddsSpec)

/-- 'gherkinlaw03.NumeralShifts', WHERE WHAT IT READS IS OF BULK AT MOST 1048576: true; the input reads as it did. -/
def numeralShiftsUptoRow : OpenClaim := { program := "ytbdabpmpfciibaa", sum := "bfea6ff84f905471786e66daf8df82d9d15e471d090641f80311b5a60ea8c88f", func := "gherkin/gherkinlaw03.NumeralShifts", spec := "numeralShifts", apart := false, narrowed := true }
def NumeralShiftsUptoSaid : Prop := numeralShiftsUptoRow.holds Try.pinned (OpenSpec.upto numeralShiftsSpec)

/-- 'gherkinlaw03.NumeralWords', WHERE WHAT IT READS IS OF BULK AT MOST 1048576: true; the input reads as it did. -/
def numeralWordsUptoRow : OpenClaim := { program := "ytbdabpmpfciibaa", sum := "bfea6ff84f905471786e66daf8df82d9d15e471d090641f80311b5a60ea8c88f", func := "gherkin/gherkinlaw03.NumeralWords", spec := "numeralWords", apart := false, narrowed := true }
def NumeralWordsUptoSaid : Prop := numeralWordsUptoRow.holds Try.pinned (OpenSpec.upto numeralWordsSpec)

/-- 'gherkinlaw03.NumeralCold', WHERE WHAT IT READS IS OF BULK AT MOST 1048576: true; the input reads as it did. -/
def numeralColdUptoRow : OpenClaim := { program := "ytbdabpmpfciibaa", sum := "bfea6ff84f905471786e66daf8df82d9d15e471d090641f80311b5a60ea8c88f", func := "gherkin/gherkinlaw03.NumeralCold", spec := "numeralCold", unfollowed := true, recurses := true, apart := false, narrowed := true }
def NumeralColdUptoSaid : Prop := numeralColdUptoRow.holds Try.pinned (OpenSpec.upto numeralColdSpec)

/-- 'gherkinlaw03.NumeralDigits', WHERE WHAT IT READS IS OF BULK AT MOST 1048576: true; the input reads as it did. -/
def numeralDigitsUptoRow : OpenClaim := { program := "ytbdabpmpfciibaa", sum := "bfea6ff84f905471786e66daf8df82d9d15e471d090641f80311b5a60ea8c88f", func := "gherkin/gherkinlaw03.NumeralDigits", spec := "numeralDigits", apart := false, narrowed := true }
def NumeralDigitsUptoSaid : Prop := numeralDigitsUptoRow.holds Try.pinned (OpenSpec.upto numeralDigitsSpec)

/-- 'gherkinlaw03.NumeralGaps', WHERE WHAT IT READS IS OF BULK AT MOST 1048576: true; the input reads as it did. -/
def numeralGapsUptoRow : OpenClaim := { program := "ytbdabpmpfciibaa", sum := "bfea6ff84f905471786e66daf8df82d9d15e471d090641f80311b5a60ea8c88f", func := "gherkin/gherkinlaw03.NumeralGaps", spec := "numeralGaps", unfollowed := true, recurses := true, apart := false, narrowed := true }
def NumeralGapsUptoSaid : Prop := numeralGapsUptoRow.holds Try.pinned (OpenSpec.upto numeralGapsSpec)

/-- 'gherkinlaw03.NumeralBack', WHERE WHAT IT READS IS OF BULK AT MOST 1048576: true; the input reads as it did. -/
def numeralBackUptoRow : OpenClaim := { program := "ytbdabpmpfciibaa", sum := "bfea6ff84f905471786e66daf8df82d9d15e471d090641f80311b5a60ea8c88f", func := "gherkin/gherkinlaw03.NumeralBack", spec := "numeralBack", apart := false, narrowed := true }
def NumeralBackUptoSaid : Prop := numeralBackUptoRow.holds Try.pinned (OpenSpec.upto numeralBackSpec)

/-- 'gherkinlaw03.NumeralGolden', WHERE WHAT IT READS IS OF BULK AT MOST 1048576: true; the input reads as it did. -/
def numeralGoldenUptoRow : OpenClaim := { program := "ytbdabpmpfciibaa", sum := "bfea6ff84f905471786e66daf8df82d9d15e471d090641f80311b5a60ea8c88f", func := "gherkin/gherkinlaw03.NumeralGolden", spec := "numeralGolden", apart := false, narrowed := true }
def NumeralGoldenUptoSaid : Prop := numeralGoldenUptoRow.holds Try.pinned (OpenSpec.upto numeralGoldenSpec)

/-- 'gherkinlaw03.NumeralCircles', WHERE WHAT IT READS IS OF BULK AT MOST 1048576: true; the input reads as it did. -/
def numeralCirclesUptoRow : OpenClaim := { program := "ytbdabpmpfciibaa", sum := "bfea6ff84f905471786e66daf8df82d9d15e471d090641f80311b5a60ea8c88f", func := "gherkin/gherkinlaw03.NumeralCircles", spec := "numeralCircles", apart := false, narrowed := true }
def NumeralCirclesUptoSaid : Prop := numeralCirclesUptoRow.holds Try.pinned (OpenSpec.upto numeralCirclesSpec)

/-- 'gherkinlaw03.NumeralGame', WHERE WHAT IT READS IS OF BULK AT MOST 1048576: true; the input reads as it did. -/
def numeralGameUptoRow : OpenClaim := { program := "ytbdabpmpfciibaa", sum := "bfea6ff84f905471786e66daf8df82d9d15e471d090641f80311b5a60ea8c88f", func := "gherkin/gherkinlaw03.NumeralGame", spec := "numeralGame", unfollowed := true, recurses := true, apart := false, narrowed := true }
def NumeralGameUptoSaid : Prop := numeralGameUptoRow.holds Try.pinned (OpenSpec.upto numeralGameSpec)

/-- 'gherkinlaw03.NumeralPairs', WHERE WHAT IT READS IS OF BULK AT MOST 1048576: true; the input reads as it did. -/
def numeralPairsUptoRow : OpenClaim := { program := "ytbdabpmpfciibaa", sum := "bfea6ff84f905471786e66daf8df82d9d15e471d090641f80311b5a60ea8c88f", func := "gherkin/gherkinlaw03.NumeralPairs", spec := "numeralPairs", apart := false, narrowed := true }
def NumeralPairsUptoSaid : Prop := numeralPairsUptoRow.holds Try.pinned (OpenSpec.upto numeralPairsSpec)

/-- 'gherkinlaw03.NumeralAlong', WHERE WHAT IT READS IS OF BULK AT MOST 1048576: true; the input reads as it did. -/
def numeralAlongUptoRow : OpenClaim := { program := "ytbdabpmpfciibaa", sum := "bfea6ff84f905471786e66daf8df82d9d15e471d090641f80311b5a60ea8c88f", func := "gherkin/gherkinlaw03.NumeralAlong", spec := "numeralAlong", apart := false, narrowed := true }
def NumeralAlongUptoSaid : Prop := numeralAlongUptoRow.holds Try.pinned (OpenSpec.upto numeralAlongSpec)

/-- 'gherkinlaw03.NumeralThree', WHERE WHAT IT READS IS OF BULK AT MOST 1048576: true; the input reads as it did. -/
def numeralThreeUptoRow : OpenClaim := { program := "ytbdabpmpfciibaa", sum := "bfea6ff84f905471786e66daf8df82d9d15e471d090641f80311b5a60ea8c88f", func := "gherkin/gherkinlaw03.NumeralThree", spec := "numeralThree", unfollowed := true, recurses := true, apart := false, narrowed := true }
def NumeralThreeUptoSaid : Prop := numeralThreeUptoRow.holds Try.pinned (OpenSpec.upto numeralThreeSpec)

/-- 'gherkintop.TopGolden', WHERE WHAT IT READS IS OF BULK AT MOST 1048576: true; the input reads as it did. -/
def topGoldenUptoRow : OpenClaim := { program := "ytbdabpmpfciibaa", sum := "bfea6ff84f905471786e66daf8df82d9d15e471d090641f80311b5a60ea8c88f", func := "gherkin/gherkintop.TopGolden", spec := "topGolden", unfollowed := true, recurses := true, apart := false, narrowed := true }
def TopGoldenUptoSaid : Prop := topGoldenUptoRow.holds Try.pinned (OpenSpec.upto topGoldenSpec)

/-- 'gherkintop.TopUnder', WHERE WHAT IT READS IS OF BULK AT MOST 1048576: true; the input reads as it did. -/
def topUnderUptoRow : OpenClaim := { program := "ytbdabpmpfciibaa", sum := "bfea6ff84f905471786e66daf8df82d9d15e471d090641f80311b5a60ea8c88f", func := "gherkin/gherkintop.TopUnder", spec := "topUnder", unfollowed := true, recurses := true, apart := false, narrowed := true }
def TopUnderUptoSaid : Prop := topUnderUptoRow.holds Try.pinned (OpenSpec.upto topUnderSpec)

end Rows
end Go.Proofs.Ytbdabpmpfciibaa
