/-
  No cell of these rows narrows 'for every input' (looked for: loops, veiled, ifaces, maps, wideKeys, modest, calm, conditions, laid).
  DERIVED. THE GIVEN ROWS OF THIS SEAT. 12 by the template 'for every input the law returns true; each argument reads behind the call as it read before'; 0 by the template 'total and deterministic' (their statements: YtbdiknlbmjdpeaaTotals.lean).
  GIVEN WITH THE SEED: the statements are not yours to turn. If you find one false, say at which input.
  Laid BY PROGRAM, IN A SANDBOX (cutbox-rows.mjs): the forced cells as the released guide's own fill.sh prints them over the translation 9a7c5ec8d68cff28… (all of the seat's roots in one cut). By AI agents, Wed Nov 11 2026. No macro, syntax, notation, axiom, sorry.
-/
import Derived.Test.YtbdiknlbmjdpeaaChecked
import GoSem.Claim
import GoSem.ClaimJoined
import GoSem.ClaimMapViews
import Derived.JoinedTies
import Derived.KernelRfl
namespace Go.Proofs.Ytbdiknlbmjdpeaa
/- THE CELL 'sum', in the pinned program and in every row, IS THE sha256 OF THE DUMP (.gsa) THAT YtbdiknlbmjdpeaaProg.lean LOADS. Nothing in Lean hashes anything: it is a label: what it is worth is what the hold of that sum in a sandbox is worth. -/
noncomputable def Try.pinned : Pinned := { name := "ytbdiknlbmjdpeaa", sum := "9a7c5ec8d68cff28fa9684d4ba7588d6e8ef09412dd08b572d0071325bf5553e", checked := Try.checked }
namespace Rows
def none {H : Type} : Left H := { results := [], args := [] }

/-- 'gherkinlaw05.SharesGreedy': WHATEVER THE INPUT: true; the input reads as it did. -/
def sharesGreedySpec : ChangeSpec := { name := "sharesGreedy", fn := fun _ => fun
  | [d1, d2] => { results := [.lit (.bool true)], args := [d1, d2] }
  | _ => none }
def sharesGreedyRow : OpenClaim := { program := "ytbdiknlbmjdpeaa", sum := "9a7c5ec8d68cff28fa9684d4ba7588d6e8ef09412dd08b572d0071325bf5553e", func := "gherkin/gherkinlaw05.SharesGreedy", spec := "sharesGreedy", apart := false }
def SharesGreedySaid : Prop := sharesGreedyRow.holds Try.pinned (OpenSpec.ofChange sharesGreedySpec)

/-- ITS FALSE NEIGHBOUR: 'it returns false'. Refute it at one input. -/
def sharesGreedyWrong : ChangeSpec := { name := "sharesGreedy", fn := fun _ => fun
  | [d1, d2] => { results := [.lit (.bool false)], args := [d1, d2] }
  | _ => none }
def SharesGreedyWrongFalsely : Prop := sharesGreedyRow.holds Try.pinned (OpenSpec.ofChange sharesGreedyWrong)

/-- 'gherkinlaw05.SharesShort': WHATEVER THE INPUT: true; the input reads as it did. -/
def sharesShortSpec : ChangeSpec := { name := "sharesShort", fn := fun _ => fun
  | [d1, d2, d3, d4] => { results := [.lit (.bool true)], args := [d1, d2, d3, d4] }
  | _ => none }
def sharesShortRow : OpenClaim := { program := "ytbdiknlbmjdpeaa", sum := "9a7c5ec8d68cff28fa9684d4ba7588d6e8ef09412dd08b572d0071325bf5553e", func := "gherkin/gherkinlaw05.SharesShort", spec := "sharesShort", unfollowed := true, recurses := true, apart := false }
def SharesShortSaid : Prop := sharesShortRow.holds Try.pinned (OpenSpec.ofChange sharesShortSpec)

/-- ITS FALSE NEIGHBOUR: 'it returns false'. Refute it at one input. -/
def sharesShortWrong : ChangeSpec := { name := "sharesShort", fn := fun _ => fun
  | [d1, d2, d3, d4] => { results := [.lit (.bool false)], args := [d1, d2, d3, d4] }
  | _ => none }
def SharesShortWrongFalsely : Prop := sharesShortRow.holds Try.pinned (OpenSpec.ofChange sharesShortWrong)

/-- 'gherkinlaw05.SharesChecks': WHATEVER THE INPUT: true; the input reads as it did. -/
def sharesChecksSpec : ChangeSpec := { name := "sharesChecks", fn := fun _ => fun
  | [d1, d2, d3] => { results := [.lit (.bool true)], args := [d1, d2, d3] }
  | _ => none }
def sharesChecksRow : OpenClaim := { program := "ytbdiknlbmjdpeaa", sum := "9a7c5ec8d68cff28fa9684d4ba7588d6e8ef09412dd08b572d0071325bf5553e", func := "gherkin/gherkinlaw05.SharesChecks", spec := "sharesChecks", named := ["math/bits.divideError", "math/bits.overflowError"], apart := false }
def SharesChecksSaid : Prop := sharesChecksRow.holds Try.pinned (OpenSpec.ofChange sharesChecksSpec)

/-- ITS FALSE NEIGHBOUR: 'it returns false'. Refute it at one input. -/
def sharesChecksWrong : ChangeSpec := { name := "sharesChecks", fn := fun _ => fun
  | [d1, d2, d3] => { results := [.lit (.bool false)], args := [d1, d2, d3] }
  | _ => none }
def SharesChecksWrongFalsely : Prop := sharesChecksRow.holds Try.pinned (OpenSpec.ofChange sharesChecksWrong)

/-- 'gherkinlaw05.SharesParts': WHATEVER THE INPUT: true; the input reads as it did. -/
def sharesPartsSpec : ChangeSpec := { name := "sharesParts", fn := fun _ => fun
  | [d1, d2] => { results := [.lit (.bool true)], args := [d1, d2] }
  | _ => none }
def sharesPartsRow : OpenClaim := { program := "ytbdiknlbmjdpeaa", sum := "9a7c5ec8d68cff28fa9684d4ba7588d6e8ef09412dd08b572d0071325bf5553e", func := "gherkin/gherkinlaw05.SharesParts", spec := "sharesParts", unfollowed := true, recurses := true, apart := false }
def SharesPartsSaid : Prop := sharesPartsRow.holds Try.pinned (OpenSpec.ofChange sharesPartsSpec)

/-- ITS FALSE NEIGHBOUR: 'it returns false'. Refute it at one input. -/
def sharesPartsWrong : ChangeSpec := { name := "sharesParts", fn := fun _ => fun
  | [d1, d2] => { results := [.lit (.bool false)], args := [d1, d2] }
  | _ => none }
def SharesPartsWrongFalsely : Prop := sharesPartsRow.holds Try.pinned (OpenSpec.ofChange sharesPartsWrong)

/-- 'gherkinlaw05.SharesThree': WHATEVER THE INPUT: true; the input reads as it did. -/
def sharesThreeSpec : ChangeSpec := { name := "sharesThree", fn := fun _ => fun
  | [d1, d2] => { results := [.lit (.bool true)], args := [d1, d2] }
  | _ => none }
def sharesThreeRow : OpenClaim := { program := "ytbdiknlbmjdpeaa", sum := "9a7c5ec8d68cff28fa9684d4ba7588d6e8ef09412dd08b572d0071325bf5553e", func := "gherkin/gherkinlaw05.SharesThree", spec := "sharesThree", unfollowed := true, recurses := true, apart := false }
def SharesThreeSaid : Prop := sharesThreeRow.holds Try.pinned (OpenSpec.ofChange sharesThreeSpec)

/-- ITS FALSE NEIGHBOUR: 'it returns false'. Refute it at one input. -/
def sharesThreeWrong : ChangeSpec := { name := "sharesThree", fn := fun _ => fun
  | [d1, d2] => { results := [.lit (.bool false)], args := [d1, d2] }
  | _ => none }
def SharesThreeWrongFalsely : Prop := sharesThreeRow.holds Try.pinned (OpenSpec.ofChange sharesThreeWrong)

/-- 'gherkinlaw05.SharesBounds': WHATEVER THE INPUT: true; the input reads as it did. -/
def sharesBoundsSpec : ChangeSpec := { name := "sharesBounds", fn := fun _ => fun
  | [d1, d2, d3] => { results := [.lit (.bool true)], args := [d1, d2, d3] }
  | _ => none }
def sharesBoundsRow : OpenClaim := { program := "ytbdiknlbmjdpeaa", sum := "9a7c5ec8d68cff28fa9684d4ba7588d6e8ef09412dd08b572d0071325bf5553e", func := "gherkin/gherkinlaw05.SharesBounds", spec := "sharesBounds", unfollowed := true, recurses := true, apart := false }
def SharesBoundsSaid : Prop := sharesBoundsRow.holds Try.pinned (OpenSpec.ofChange sharesBoundsSpec)

/-- ITS FALSE NEIGHBOUR: 'it returns false'. Refute it at one input. -/
def sharesBoundsWrong : ChangeSpec := { name := "sharesBounds", fn := fun _ => fun
  | [d1, d2, d3] => { results := [.lit (.bool false)], args := [d1, d2, d3] }
  | _ => none }
def SharesBoundsWrongFalsely : Prop := sharesBoundsRow.holds Try.pinned (OpenSpec.ofChange sharesBoundsWrong)

/-- 'gherkinlaw05.SharesRuns': WHATEVER THE INPUT: true; the input reads as it did. -/
def sharesRunsSpec : ChangeSpec := { name := "sharesRuns", fn := fun _ => fun
  | [d1, d2] => { results := [.lit (.bool true)], args := [d1, d2] }
  | _ => none }
def sharesRunsRow : OpenClaim := { program := "ytbdiknlbmjdpeaa", sum := "9a7c5ec8d68cff28fa9684d4ba7588d6e8ef09412dd08b572d0071325bf5553e", func := "gherkin/gherkinlaw05.SharesRuns", spec := "sharesRuns", apart := false }
def SharesRunsSaid : Prop := sharesRunsRow.holds Try.pinned (OpenSpec.ofChange sharesRunsSpec)

/-- ITS FALSE NEIGHBOUR: 'it returns false'. Refute it at one input. -/
def sharesRunsWrong : ChangeSpec := { name := "sharesRuns", fn := fun _ => fun
  | [d1, d2] => { results := [.lit (.bool false)], args := [d1, d2] }
  | _ => none }
def SharesRunsWrongFalsely : Prop := sharesRunsRow.holds Try.pinned (OpenSpec.ofChange sharesRunsWrong)

/-- 'gherkinlaw05.SharesFew': WHATEVER THE INPUT: true; the input reads as it did. -/
def sharesFewSpec : ChangeSpec := { name := "sharesFew", fn := fun _ => fun
  | [d1, d2, d3, d4] => { results := [.lit (.bool true)], args := [d1, d2, d3, d4] }
  | _ => none }
def sharesFewRow : OpenClaim := { program := "ytbdiknlbmjdpeaa", sum := "9a7c5ec8d68cff28fa9684d4ba7588d6e8ef09412dd08b572d0071325bf5553e", func := "gherkin/gherkinlaw05.SharesFew", spec := "sharesFew", unfollowed := true, recurses := true, apart := false }
def SharesFewSaid : Prop := sharesFewRow.holds Try.pinned (OpenSpec.ofChange sharesFewSpec)

/-- ITS FALSE NEIGHBOUR: 'it returns false'. Refute it at one input. -/
def sharesFewWrong : ChangeSpec := { name := "sharesFew", fn := fun _ => fun
  | [d1, d2, d3, d4] => { results := [.lit (.bool false)], args := [d1, d2, d3, d4] }
  | _ => none }
def SharesFewWrongFalsely : Prop := sharesFewRow.holds Try.pinned (OpenSpec.ofChange sharesFewWrong)

/-- 'gherkinlaw05.SharesPractical': WHATEVER THE INPUT: true; the input reads as it did. -/
def sharesPracticalSpec : ChangeSpec := { name := "sharesPractical", fn := fun _ => fun
  | [d1, d2, d3] => { results := [.lit (.bool true)], args := [d1, d2, d3] }
  | _ => none }
def sharesPracticalRow : OpenClaim := { program := "ytbdiknlbmjdpeaa", sum := "9a7c5ec8d68cff28fa9684d4ba7588d6e8ef09412dd08b572d0071325bf5553e", func := "gherkin/gherkinlaw05.SharesPractical", spec := "sharesPractical", unfollowed := true, recurses := true, apart := false }
def SharesPracticalSaid : Prop := sharesPracticalRow.holds Try.pinned (OpenSpec.ofChange sharesPracticalSpec)

/-- ITS FALSE NEIGHBOUR: 'it returns false'. Refute it at one input. -/
def sharesPracticalWrong : ChangeSpec := { name := "sharesPractical", fn := fun _ => fun
  | [d1, d2, d3] => { results := [.lit (.bool false)], args := [d1, d2, d3] }
  | _ => none }
def SharesPracticalWrongFalsely : Prop := sharesPracticalRow.holds Try.pinned (OpenSpec.ofChange sharesPracticalWrong)

/-- 'gherkinlaw05.SharesOf': WHATEVER THE INPUT: true; the input reads as it did. -/
def sharesOfSpec : ChangeSpec := { name := "sharesOf", fn := fun _ => fun
  | [d1, d2] => { results := [.lit (.bool true)], args := [d1, d2] }
  | _ => none }
def sharesOfRow : OpenClaim := { program := "ytbdiknlbmjdpeaa", sum := "9a7c5ec8d68cff28fa9684d4ba7588d6e8ef09412dd08b572d0071325bf5553e", func := "gherkin/gherkinlaw05.SharesOf", spec := "sharesOf", unfollowed := true, recurses := true, apart := false }
def SharesOfSaid : Prop := sharesOfRow.holds Try.pinned (OpenSpec.ofChange sharesOfSpec)

/-- ITS FALSE NEIGHBOUR: 'it returns false'. Refute it at one input. -/
def sharesOfWrong : ChangeSpec := { name := "sharesOf", fn := fun _ => fun
  | [d1, d2] => { results := [.lit (.bool false)], args := [d1, d2] }
  | _ => none }
def SharesOfWrongFalsely : Prop := sharesOfRow.holds Try.pinned (OpenSpec.ofChange sharesOfWrong)

/-- 'gherkinlaw05.SharesFour': WHATEVER THE INPUT: true; the input reads as it did. -/
def sharesFourSpec : ChangeSpec := { name := "sharesFour", fn := fun _ => fun
  | [d1, d2] => { results := [.lit (.bool true)], args := [d1, d2] }
  | _ => none }
def sharesFourRow : OpenClaim := { program := "ytbdiknlbmjdpeaa", sum := "9a7c5ec8d68cff28fa9684d4ba7588d6e8ef09412dd08b572d0071325bf5553e", func := "gherkin/gherkinlaw05.SharesFour", spec := "sharesFour", unfollowed := true, recurses := true, apart := false }
def SharesFourSaid : Prop := sharesFourRow.holds Try.pinned (OpenSpec.ofChange sharesFourSpec)

/-- ITS FALSE NEIGHBOUR: 'it returns false'. Refute it at one input. -/
def sharesFourWrong : ChangeSpec := { name := "sharesFour", fn := fun _ => fun
  | [d1, d2] => { results := [.lit (.bool false)], args := [d1, d2] }
  | _ => none }
def SharesFourWrongFalsely : Prop := sharesFourRow.holds Try.pinned (OpenSpec.ofChange sharesFourWrong)

/-- 'gherkinlaw05.SharesFirst': WHATEVER THE INPUT: true; the input reads as it did. -/
def sharesFirstSpec : ChangeSpec := { name := "sharesFirst", fn := fun _ => fun
  | [d1, d2, d3] => { results := [.lit (.bool true)], args := [d1, d2, d3] }
  | _ => none }
def sharesFirstRow : OpenClaim := { program := "ytbdiknlbmjdpeaa", sum := "9a7c5ec8d68cff28fa9684d4ba7588d6e8ef09412dd08b572d0071325bf5553e", func := "gherkin/gherkinlaw05.SharesFirst", spec := "sharesFirst", unfollowed := true, recurses := true, apart := false }
def SharesFirstSaid : Prop := sharesFirstRow.holds Try.pinned (OpenSpec.ofChange sharesFirstSpec)

/-- ITS FALSE NEIGHBOUR: 'it returns false'. Refute it at one input. -/
def sharesFirstWrong : ChangeSpec := { name := "sharesFirst", fn := fun _ => fun
  | [d1, d2, d3] => { results := [.lit (.bool false)], args := [d1, d2, d3] }
  | _ => none }
def SharesFirstWrongFalsely : Prop := sharesFirstRow.holds Try.pinned (OpenSpec.ofChange sharesFirstWrong)

/- THE SECOND FORM. 'bulk': how many values and letters a reading holds, each counted each time it is reached (what is shared counts as often as it is met; a slice's spare places count too). A statement '..UptoSaid' is the law's where the arguments, and the package variables that the reading takes, are together of bulk at most 1048576: NARROWER than '..Said'. Prove '..Said' where nothing that the law and all that it calls make is longer than what came in: it says more and counts as full. Else prove '..UptoSaid'. A law counts once. -/
mutual
def uptoBulk {H : Type} : DataW H → Nat
  | .lit (.string bytes) => bytes.length + 1
  | .lit _ => 1
  | .nil => 1
  | .ptr d => uptoBulk d + 1
  | .slice elems spare => uptoBulkAll elems + uptoBulkAll spare + 1
  | .agg parts => uptoBulkAll parts + 1
  | .iface _ d => uptoBulk d + 1
  | .map entries => uptoBulkEntries entries + 1
  | .held _ => 1
def uptoBulkAll {H : Type} : List (DataW H) → Nat
  | [] => 0
  | d :: r => uptoBulk d + uptoBulkAll r
def uptoBulkEntries {H : Type} : List (Lit × DataW H) → Nat
  | [] => 0
  | x :: r => uptoBulkEntry x + uptoBulkEntries r
def uptoBulkEntry {H : Type} : Lit × DataW H → Nat
  | (.string bytes, d) => bytes.length + uptoBulk d + 1
  | (_, d) => uptoBulk d + 1
 end
def uptoSmall : (H : Type) → List (DataW H) → Bool := fun _ ds => decide (uptoBulkAll ds ≤ 1048576)
def OpenSpec.upto (s : _root_.Go.ChangeSpec) : _root_.Go.OpenSpec := { _root_.Go.OpenSpec.ofChange s with cond := some uptoSmall }

/-- 'gherkinlaw05.SharesGreedy', WHERE WHAT IT READS IS OF BULK AT MOST 1048576: true; the input reads as it did. -/
def sharesGreedyUptoRow : OpenClaim := { program := "ytbdiknlbmjdpeaa", sum := "9a7c5ec8d68cff28fa9684d4ba7588d6e8ef09412dd08b572d0071325bf5553e", func := "gherkin/gherkinlaw05.SharesGreedy", spec := "sharesGreedy", apart := false, narrowed := true }
def SharesGreedyUptoSaid : Prop := sharesGreedyUptoRow.holds Try.pinned (OpenSpec.upto sharesGreedySpec)

/-- 'gherkinlaw05.SharesShort', WHERE WHAT IT READS IS OF BULK AT MOST 1048576: true; the input reads as it did. -/
def sharesShortUptoRow : OpenClaim := { program := "ytbdiknlbmjdpeaa", sum := "9a7c5ec8d68cff28fa9684d4ba7588d6e8ef09412dd08b572d0071325bf5553e", func := "gherkin/gherkinlaw05.SharesShort", spec := "sharesShort", unfollowed := true, recurses := true, apart := false, narrowed := true }
def SharesShortUptoSaid : Prop := sharesShortUptoRow.holds Try.pinned (OpenSpec.upto sharesShortSpec)

/-- 'gherkinlaw05.SharesChecks', WHERE WHAT IT READS IS OF BULK AT MOST 1048576: true; the input reads as it did. -/
def sharesChecksUptoRow : OpenClaim := { program := "ytbdiknlbmjdpeaa", sum := "9a7c5ec8d68cff28fa9684d4ba7588d6e8ef09412dd08b572d0071325bf5553e", func := "gherkin/gherkinlaw05.SharesChecks", spec := "sharesChecks", named := ["math/bits.divideError", "math/bits.overflowError"], apart := false, narrowed := true }
def SharesChecksUptoSaid : Prop := sharesChecksUptoRow.holds Try.pinned (OpenSpec.upto sharesChecksSpec)

/-- 'gherkinlaw05.SharesParts', WHERE WHAT IT READS IS OF BULK AT MOST 1048576: true; the input reads as it did. -/
def sharesPartsUptoRow : OpenClaim := { program := "ytbdiknlbmjdpeaa", sum := "9a7c5ec8d68cff28fa9684d4ba7588d6e8ef09412dd08b572d0071325bf5553e", func := "gherkin/gherkinlaw05.SharesParts", spec := "sharesParts", unfollowed := true, recurses := true, apart := false, narrowed := true }
def SharesPartsUptoSaid : Prop := sharesPartsUptoRow.holds Try.pinned (OpenSpec.upto sharesPartsSpec)

/-- 'gherkinlaw05.SharesThree', WHERE WHAT IT READS IS OF BULK AT MOST 1048576: true; the input reads as it did. -/
def sharesThreeUptoRow : OpenClaim := { program := "ytbdiknlbmjdpeaa", sum := "9a7c5ec8d68cff28fa9684d4ba7588d6e8ef09412dd08b572d0071325bf5553e", func := "gherkin/gherkinlaw05.SharesThree", spec := "sharesThree", unfollowed := true, recurses := true, apart := false, narrowed := true }
def SharesThreeUptoSaid : Prop := sharesThreeUptoRow.holds Try.pinned (OpenSpec.upto sharesThreeSpec)

/-- 'gherkinlaw05.SharesBounds', WHERE WHAT IT READS IS OF BULK AT MOST 1048576: true; the input reads as it did. -/
def sharesBoundsUptoRow : OpenClaim := { program := "ytbdiknlbmjdpeaa", sum := "9a7c5ec8d68cff28fa9684d4ba7588d6e8ef09412dd08b572d0071325bf5553e", func := "gherkin/gherkinlaw05.SharesBounds", spec := "sharesBounds", unfollowed := true, recurses := true, apart := false, narrowed := true }
def SharesBoundsUptoSaid : Prop := sharesBoundsUptoRow.holds Try.pinned (OpenSpec.upto sharesBoundsSpec)

/-- 'gherkinlaw05.SharesRuns', WHERE WHAT IT READS IS OF BULK AT MOST 1048576: true; the input reads as it did. -/
def sharesRunsUptoRow : OpenClaim := { program := "ytbdiknlbmjdpeaa", sum := "9a7c5ec8d68cff28fa9684d4ba7588d6e8ef09412dd08b572d0071325bf5553e", func := "gherkin/gherkinlaw05.SharesRuns", spec := "sharesRuns", apart := false, narrowed := true }
def SharesRunsUptoSaid : Prop := sharesRunsUptoRow.holds Try.pinned (OpenSpec.upto sharesRunsSpec)

/-- 'gherkinlaw05.SharesFew', WHERE WHAT IT READS IS OF BULK AT MOST 1048576: true; the input reads as it did. -/
def sharesFewUptoRow : OpenClaim := { program := "ytbdiknlbmjdpeaa", sum := "9a7c5ec8d68cff28fa9684d4ba7588d6e8ef09412dd08b572d0071325bf5553e", func := "gherkin/gherkinlaw05.SharesFew", spec := "sharesFew", unfollowed := true, recurses := true, apart := false, narrowed := true }
def SharesFewUptoSaid : Prop := sharesFewUptoRow.holds Try.pinned (OpenSpec.upto sharesFewSpec)

/-- 'gherkinlaw05.SharesPractical', WHERE WHAT IT READS IS OF BULK AT MOST 1048576: true; the input reads as it did. -/
def sharesPracticalUptoRow : OpenClaim := { program := "ytbdiknlbmjdpeaa", sum := "9a7c5ec8d68cff28fa9684d4ba7588d6e8ef09412dd08b572d0071325bf5553e", func := "gherkin/gherkinlaw05.SharesPractical", spec := "sharesPractical", unfollowed := true, recurses := true, apart := false, narrowed := true }
def SharesPracticalUptoSaid : Prop := sharesPracticalUptoRow.holds Try.pinned (OpenSpec.upto sharesPracticalSpec)

/-- 'gherkinlaw05.SharesOf', WHERE WHAT IT READS IS OF BULK AT MOST 1048576: true; the input reads as it did. -/
def sharesOfUptoRow : OpenClaim := { program := "ytbdiknlbmjdpeaa", sum := "9a7c5ec8d68cff28fa9684d4ba7588d6e8ef09412dd08b572d0071325bf5553e", func := "gherkin/gherkinlaw05.SharesOf", spec := "sharesOf", unfollowed := true, recurses := true, apart := false, narrowed := true }
def SharesOfUptoSaid : Prop := sharesOfUptoRow.holds Try.pinned (OpenSpec.upto sharesOfSpec)

/-- 'gherkinlaw05.SharesFour', WHERE WHAT IT READS IS OF BULK AT MOST 1048576: true; the input reads as it did. -/
def sharesFourUptoRow : OpenClaim := { program := "ytbdiknlbmjdpeaa", sum := "9a7c5ec8d68cff28fa9684d4ba7588d6e8ef09412dd08b572d0071325bf5553e", func := "gherkin/gherkinlaw05.SharesFour", spec := "sharesFour", unfollowed := true, recurses := true, apart := false, narrowed := true }
def SharesFourUptoSaid : Prop := sharesFourUptoRow.holds Try.pinned (OpenSpec.upto sharesFourSpec)

/-- 'gherkinlaw05.SharesFirst', WHERE WHAT IT READS IS OF BULK AT MOST 1048576: true; the input reads as it did. -/
def sharesFirstUptoRow : OpenClaim := { program := "ytbdiknlbmjdpeaa", sum := "9a7c5ec8d68cff28fa9684d4ba7588d6e8ef09412dd08b572d0071325bf5553e", func := "gherkin/gherkinlaw05.SharesFirst", spec := "sharesFirst", unfollowed := true, recurses := true, apart := false, narrowed := true }
def SharesFirstUptoSaid : Prop := sharesFirstUptoRow.holds Try.pinned (OpenSpec.upto sharesFirstSpec)

end Rows
end Go.Proofs.Ytbdiknlbmjdpeaa
