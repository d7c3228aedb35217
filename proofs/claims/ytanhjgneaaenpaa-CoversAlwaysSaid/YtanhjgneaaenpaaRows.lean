/-
  No cell of these rows narrows 'for every input' (looked for: loops, veiled, ifaces, maps, wideKeys, modest, calm, conditions, laid).
  DERIVED. THE GIVEN ROWS OF THIS SEAT. 11 by the template 'for every input the law returns true; each argument reads behind the call as it read before'; 0 by the template 'total and deterministic' (their statements: YtanhjgneaaenpaaTotals.lean).
  GIVEN WITH THE SEED: the statements are not yours to turn. If you find one false, say at which input.
  Laid BY PROGRAM, IN A SANDBOX (cutbox-rows.mjs): the forced cells as the released guide's own fill.sh prints them over the translation 7216911c1b9092ed… (all of the seat's roots in one cut). By AI agents, Wed Nov 11 2026. No macro, syntax, notation, axiom, sorry.
-/
import Derived.Test.YtanhjgneaaenpaaChecked
import GoSem.Claim
import GoSem.ClaimJoined
import GoSem.ClaimMapViews
import Derived.JoinedTies
import Derived.KernelRfl
namespace Go.Proofs.Ytanhjgneaaenpaa
/- THE CELL 'sum', in the pinned program and in every row, IS THE sha256 OF THE DUMP (.gsa) THAT YtanhjgneaaenpaaProg.lean LOADS. Nothing in Lean hashes anything: it is a label: what it is worth is what the hold of that sum in a sandbox is worth. -/
noncomputable def Try.pinned : Pinned := { name := "ytanhjgneaaenpaa", sum := "7216911c1b9092ed68ed5b9dac22e38899afb93b4e3d320244c959d69bd04359", checked := Try.checked }
namespace Rows
def none {H : Type} : Left H := { results := [], args := [] }

/-- 'gherkinlaw04.CoversTells': WHATEVER THE INPUT: true; the input reads as it did. -/
def coversTellsSpec : ChangeSpec := { name := "coversTells", fn := fun _ => fun
  | [d] => { results := [.lit (.bool true)], args := [d] }
  | _ => none }
def coversTellsRow : OpenClaim := { program := "ytanhjgneaaenpaa", sum := "7216911c1b9092ed68ed5b9dac22e38899afb93b4e3d320244c959d69bd04359", func := "gherkin/gherkinlaw04.CoversTells", spec := "coversTells", unfollowed := true, recurses := true, apart := false }
def CoversTellsSaid : Prop := coversTellsRow.holds Try.pinned (OpenSpec.ofChange coversTellsSpec)

/-- ITS FALSE NEIGHBOUR: 'it returns false'. Refute it at one input. -/
def coversTellsWrong : ChangeSpec := { name := "coversTells", fn := fun _ => fun
  | [d] => { results := [.lit (.bool false)], args := [d] }
  | _ => none }
def CoversTellsWrongFalsely : Prop := coversTellsRow.holds Try.pinned (OpenSpec.ofChange coversTellsWrong)

/-- 'gherkinlaw04.CoversChooses': WHATEVER THE INPUT: true; the input reads as it did. -/
def coversChoosesSpec : ChangeSpec := { name := "coversChooses", fn := fun _ => fun
  | [d] => { results := [.lit (.bool true)], args := [d] }
  | _ => none }
def coversChoosesRow : OpenClaim := { program := "ytanhjgneaaenpaa", sum := "7216911c1b9092ed68ed5b9dac22e38899afb93b4e3d320244c959d69bd04359", func := "gherkin/gherkinlaw04.CoversChooses", spec := "coversChooses", unfollowed := true, recurses := true, apart := false }
def CoversChoosesSaid : Prop := coversChoosesRow.holds Try.pinned (OpenSpec.ofChange coversChoosesSpec)

/-- ITS FALSE NEIGHBOUR: 'it returns false'. Refute it at one input. -/
def coversChoosesWrong : ChangeSpec := { name := "coversChooses", fn := fun _ => fun
  | [d] => { results := [.lit (.bool false)], args := [d] }
  | _ => none }
def CoversChoosesWrongFalsely : Prop := coversChoosesRow.holds Try.pinned (OpenSpec.ofChange coversChoosesWrong)

/-- 'gherkinlaw04.CoversDays': WHATEVER THE INPUT: true; the input reads as it did. -/
def coversDaysSpec : ChangeSpec := { name := "coversDays", fn := fun _ => fun
  | [d1, d2] => { results := [.lit (.bool true)], args := [d1, d2] }
  | _ => none }
def coversDaysRow : OpenClaim := { program := "ytanhjgneaaenpaa", sum := "7216911c1b9092ed68ed5b9dac22e38899afb93b4e3d320244c959d69bd04359", func := "gherkin/gherkinlaw04.CoversDays", spec := "coversDays", unfollowed := true, recurses := true, apart := false }
def CoversDaysSaid : Prop := coversDaysRow.holds Try.pinned (OpenSpec.ofChange coversDaysSpec)

/-- ITS FALSE NEIGHBOUR: 'it returns false'. Refute it at one input. -/
def coversDaysWrong : ChangeSpec := { name := "coversDays", fn := fun _ => fun
  | [d1, d2] => { results := [.lit (.bool false)], args := [d1, d2] }
  | _ => none }
def CoversDaysWrongFalsely : Prop := coversDaysRow.holds Try.pinned (OpenSpec.ofChange coversDaysWrong)

/-- 'gherkinlaw04.CoversRefines': WHATEVER THE INPUT: true; the input reads as it did. -/
def coversRefinesSpec : ChangeSpec := { name := "coversRefines", fn := fun _ => fun
  | [d1, d2, d3] => { results := [.lit (.bool true)], args := [d1, d2, d3] }
  | _ => none }
def coversRefinesRow : OpenClaim := { program := "ytanhjgneaaenpaa", sum := "7216911c1b9092ed68ed5b9dac22e38899afb93b4e3d320244c959d69bd04359", func := "gherkin/gherkinlaw04.CoversRefines", spec := "coversRefines", unfollowed := true, recurses := true, apart := false }
def CoversRefinesSaid : Prop := coversRefinesRow.holds Try.pinned (OpenSpec.ofChange coversRefinesSpec)

/-- ITS FALSE NEIGHBOUR: 'it returns false'. Refute it at one input. -/
def coversRefinesWrong : ChangeSpec := { name := "coversRefines", fn := fun _ => fun
  | [d1, d2, d3] => { results := [.lit (.bool false)], args := [d1, d2, d3] }
  | _ => none }
def CoversRefinesWrongFalsely : Prop := coversRefinesRow.holds Try.pinned (OpenSpec.ofChange coversRefinesWrong)

/-- 'gherkinlaw04.CoversSums': WHATEVER THE INPUT: true; the input reads as it did. -/
def coversSumsSpec : ChangeSpec := { name := "coversSums", fn := fun _ => fun
  | [d] => { results := [.lit (.bool true)], args := [d] }
  | _ => none }
def coversSumsRow : OpenClaim := { program := "ytanhjgneaaenpaa", sum := "7216911c1b9092ed68ed5b9dac22e38899afb93b4e3d320244c959d69bd04359", func := "gherkin/gherkinlaw04.CoversSums", spec := "coversSums", unfollowed := true, recurses := true, apart := false }
def CoversSumsSaid : Prop := coversSumsRow.holds Try.pinned (OpenSpec.ofChange coversSumsSpec)

/-- ITS FALSE NEIGHBOUR: 'it returns false'. Refute it at one input. -/
def coversSumsWrong : ChangeSpec := { name := "coversSums", fn := fun _ => fun
  | [d] => { results := [.lit (.bool false)], args := [d] }
  | _ => none }
def CoversSumsWrongFalsely : Prop := coversSumsRow.holds Try.pinned (OpenSpec.ofChange coversSumsWrong)

/-- 'gherkinlaw04.CoversGreatest': WHATEVER THE INPUT: true; the input reads as it did. -/
def coversGreatestSpec : ChangeSpec := { name := "coversGreatest", fn := fun _ => fun
  | [d] => { results := [.lit (.bool true)], args := [d] }
  | _ => none }
def coversGreatestRow : OpenClaim := { program := "ytanhjgneaaenpaa", sum := "7216911c1b9092ed68ed5b9dac22e38899afb93b4e3d320244c959d69bd04359", func := "gherkin/gherkinlaw04.CoversGreatest", spec := "coversGreatest", unfollowed := true, recurses := true, apart := false }
def CoversGreatestSaid : Prop := coversGreatestRow.holds Try.pinned (OpenSpec.ofChange coversGreatestSpec)

/-- ITS FALSE NEIGHBOUR: 'it returns false'. Refute it at one input. -/
def coversGreatestWrong : ChangeSpec := { name := "coversGreatest", fn := fun _ => fun
  | [d] => { results := [.lit (.bool false)], args := [d] }
  | _ => none }
def CoversGreatestWrongFalsely : Prop := coversGreatestRow.holds Try.pinned (OpenSpec.ofChange coversGreatestWrong)

/-- 'gherkinlaw04.CoversParted': WHATEVER THE INPUT: true; the input reads as it did. -/
def coversPartedSpec : ChangeSpec := { name := "coversParted", fn := fun _ => fun
  | [d1, d2, d3] => { results := [.lit (.bool true)], args := [d1, d2, d3] }
  | _ => none }
def coversPartedRow : OpenClaim := { program := "ytanhjgneaaenpaa", sum := "7216911c1b9092ed68ed5b9dac22e38899afb93b4e3d320244c959d69bd04359", func := "gherkin/gherkinlaw04.CoversParted", spec := "coversParted", unfollowed := true, recurses := true, apart := false }
def CoversPartedSaid : Prop := coversPartedRow.holds Try.pinned (OpenSpec.ofChange coversPartedSpec)

/-- ITS FALSE NEIGHBOUR: 'it returns false'. Refute it at one input. -/
def coversPartedWrong : ChangeSpec := { name := "coversParted", fn := fun _ => fun
  | [d1, d2, d3] => { results := [.lit (.bool false)], args := [d1, d2, d3] }
  | _ => none }
def CoversPartedWrongFalsely : Prop := coversPartedRow.holds Try.pinned (OpenSpec.ofChange coversPartedWrong)

/-- 'gherkinlaw04.CoversApart': WHATEVER THE INPUT: true; the input reads as it did. -/
def coversApartSpec : ChangeSpec := { name := "coversApart", fn := fun _ => fun
  | [d] => { results := [.lit (.bool true)], args := [d] }
  | _ => none }
def coversApartRow : OpenClaim := { program := "ytanhjgneaaenpaa", sum := "7216911c1b9092ed68ed5b9dac22e38899afb93b4e3d320244c959d69bd04359", func := "gherkin/gherkinlaw04.CoversApart", spec := "coversApart", unfollowed := true, recurses := true, apart := false }
def CoversApartSaid : Prop := coversApartRow.holds Try.pinned (OpenSpec.ofChange coversApartSpec)

/-- ITS FALSE NEIGHBOUR: 'it returns false'. Refute it at one input. -/
def coversApartWrong : ChangeSpec := { name := "coversApart", fn := fun _ => fun
  | [d] => { results := [.lit (.bool false)], args := [d] }
  | _ => none }
def CoversApartWrongFalsely : Prop := coversApartRow.holds Try.pinned (OpenSpec.ofChange coversApartWrong)

/-- 'gherkinlaw04.CoversOrder': WHATEVER THE INPUT: true; the input reads as it did. -/
def coversOrderSpec : ChangeSpec := { name := "coversOrder", fn := fun _ => fun
  | [d1, d2] => { results := [.lit (.bool true)], args := [d1, d2] }
  | _ => none }
def coversOrderRow : OpenClaim := { program := "ytanhjgneaaenpaa", sum := "7216911c1b9092ed68ed5b9dac22e38899afb93b4e3d320244c959d69bd04359", func := "gherkin/gherkinlaw04.CoversOrder", spec := "coversOrder", unfollowed := true, recurses := true, apart := false }
def CoversOrderSaid : Prop := coversOrderRow.holds Try.pinned (OpenSpec.ofChange coversOrderSpec)

/-- ITS FALSE NEIGHBOUR: 'it returns false'. Refute it at one input. -/
def coversOrderWrong : ChangeSpec := { name := "coversOrder", fn := fun _ => fun
  | [d1, d2] => { results := [.lit (.bool false)], args := [d1, d2] }
  | _ => none }
def CoversOrderWrongFalsely : Prop := coversOrderRow.holds Try.pinned (OpenSpec.ofChange coversOrderWrong)

/-- 'gherkinlaw04.CoversAlways': WHATEVER THE INPUT: true; the input reads as it did. -/
def coversAlwaysSpec : ChangeSpec := { name := "coversAlways", fn := fun _ => fun
  | [d1, d2] => { results := [.lit (.bool true)], args := [d1, d2] }
  | _ => none }
def coversAlwaysRow : OpenClaim := { program := "ytanhjgneaaenpaa", sum := "7216911c1b9092ed68ed5b9dac22e38899afb93b4e3d320244c959d69bd04359", func := "gherkin/gherkinlaw04.CoversAlways", spec := "coversAlways", unfollowed := true, recurses := true, apart := false }
def CoversAlwaysSaid : Prop := coversAlwaysRow.holds Try.pinned (OpenSpec.ofChange coversAlwaysSpec)

/-- ITS FALSE NEIGHBOUR: 'it returns false'. Refute it at one input. -/
def coversAlwaysWrong : ChangeSpec := { name := "coversAlways", fn := fun _ => fun
  | [d1, d2] => { results := [.lit (.bool false)], args := [d1, d2] }
  | _ => none }
def CoversAlwaysWrongFalsely : Prop := coversAlwaysRow.holds Try.pinned (OpenSpec.ofChange coversAlwaysWrong)

/-- 'gherkinlaw04.CoversMoves': WHATEVER THE INPUT: true; the input reads as it did. -/
def coversMovesSpec : ChangeSpec := { name := "coversMoves", fn := fun _ => fun
  | [d1, d2] => { results := [.lit (.bool true)], args := [d1, d2] }
  | _ => none }
def coversMovesRow : OpenClaim := { program := "ytanhjgneaaenpaa", sum := "7216911c1b9092ed68ed5b9dac22e38899afb93b4e3d320244c959d69bd04359", func := "gherkin/gherkinlaw04.CoversMoves", spec := "coversMoves", unfollowed := true, recurses := true, apart := false }
def CoversMovesSaid : Prop := coversMovesRow.holds Try.pinned (OpenSpec.ofChange coversMovesSpec)

/-- ITS FALSE NEIGHBOUR: 'it returns false'. Refute it at one input. -/
def coversMovesWrong : ChangeSpec := { name := "coversMoves", fn := fun _ => fun
  | [d1, d2] => { results := [.lit (.bool false)], args := [d1, d2] }
  | _ => none }
def CoversMovesWrongFalsely : Prop := coversMovesRow.holds Try.pinned (OpenSpec.ofChange coversMovesWrong)

/- THE SECOND FORM. 'bulk': how many values and letters a reading holds, each counted each time it is reached (what is shared counts as often as it is met; a slice's spare places count too). A statement '..UptoSaid' is the law's where the arguments, and the package variables that the reading takes, are together of bulk at most 1048576: NARROWER than '..Said'. Prove '..Said' where nothing that the law and all that it calls make is longer than what came in: it says more and counts as full. Else prove '..UptoSaid'. A law counts once. -/
mutual
def uptoBulk {H : Type} : DataW H → Nat
  | .lit (.string bytes) => bytes.length + 1
  | .lit _ => 1
  | .nil => 1
  | .ptr d => uptoBulk d + 1
  | .slice elems spare => uptoBulkAll elems + uptoBulkAll spare + 1
  | .agg parts => uptoBulkAll parts + 1
  | .iface _ d => uptoBulk d + 1
  | .map entries => uptoBulkEntries entries + 1
  | .held _ => 1
def uptoBulkAll {H : Type} : List (DataW H) → Nat
  | [] => 0
  | d :: r => uptoBulk d + uptoBulkAll r
def uptoBulkEntries {H : Type} : List (Lit × DataW H) → Nat
  | [] => 0
  | x :: r => uptoBulkEntry x + uptoBulkEntries r
def uptoBulkEntry {H : Type} : Lit × DataW H → Nat
  | (.string bytes, d) => bytes.length + uptoBulk d + 1
  | (_, d) => uptoBulk d + 1
 end
def uptoSmall : (H : Type) → List (DataW H) → Bool := fun _ ds => decide (uptoBulkAll ds ≤ 1048576)
def OpenSpec.upto (s : _root_.Go.ChangeSpec) : _root_.Go.OpenSpec := { _root_.Go.OpenSpec.ofChange s with cond := some uptoSmall }

/-- 'gherkinlaw04.CoversTells', WHERE WHAT IT READS IS OF BULK AT MOST 1048576: true; the input reads as it did. -/
def coversTellsUptoRow : OpenClaim := { program := "ytanhjgneaaenpaa", sum := "7216911c1b9092ed68ed5b9dac22e38899afb93b4e3d320244c959d69bd04359", func := "gherkin/gherkinlaw04.CoversTells", spec := "coversTells", unfollowed := true, recurses := true, apart := false, narrowed := true }
def CoversTellsUptoSaid : Prop := coversTellsUptoRow.holds Try.pinned (OpenSpec.upto coversTellsSpec)

/-- 'gherkinlaw04.CoversChooses', WHERE WHAT IT READS IS OF BULK AT MOST 1048576: true; the input reads as it did. -/
def coversChoosesUptoRow : OpenClaim := { program := "ytanhjgneaaenpaa", sum := "7216911c1b9092ed68ed5b9dac22e38899afb93b4e3d320244c959d69bd04359", func := "gherkin/gherkinlaw04.CoversChooses", spec := "coversChooses", unfollowed := true, recurses := true, apart := false, narrowed := true }
def CoversChoosesUptoSaid : Prop := coversChoosesUptoRow.holds Try.pinned (OpenSpec.upto coversChoosesSpec)

/-- 'gherkinlaw04.CoversDays', WHERE WHAT IT READS IS OF BULK AT MOST 1048576: true; the input reads as it did. -/
def coversDaysUptoRow : OpenClaim := { program := "ytanhjgneaaenpaa", sum := "7216911c1b9092ed68ed5b9dac22e38899afb93b4e3d320244c959d69bd04359", func := "gherkin/gherkinlaw04.CoversDays", spec := "coversDays", unfollowed := true, recurses := true, apart := false, narrowed := true }
def CoversDaysUptoSaid : Prop := coversDaysUptoRow.holds Try.pinned (OpenSpec.upto coversDaysSpec)

/-- 'gherkinlaw04.CoversRefines', WHERE WHAT IT READS IS OF BULK AT MOST 1048576: true; the input reads as it did. -/
def coversRefinesUptoRow : OpenClaim := { program := "ytanhjgneaaenpaa", sum := "7216911c1b9092ed68ed5b9dac22e38899afb93b4e3d320244c959d69bd04359", func := "gherkin/gherkinlaw04.CoversRefines", spec := "coversRefines", unfollowed := true, recurses := true, apart := false, narrowed := true }
def CoversRefinesUptoSaid : Prop := coversRefinesUptoRow.holds Try.pinned (OpenSpec.upto coversRefinesSpec)

/-- 'gherkinlaw04.CoversSums', WHERE WHAT IT READS IS OF BULK AT MOST 1048576: true; the input reads as it did. -/
def coversSumsUptoRow : OpenClaim := { program := "ytanhjgneaaenpaa", sum := "7216911c1b9092ed68ed5b9dac22e38899afb93b4e3d320244c959d69bd04359", func := "gherkin/gherkinlaw04.CoversSums", spec := "coversSums", unfollowed := true, recurses := true, apart := false, narrowed := true }
def CoversSumsUptoSaid : Prop := coversSumsUptoRow.holds Try.pinned (OpenSpec.upto coversSumsSpec)

/-- 'gherkinlaw04.CoversGreatest', WHERE WHAT IT READS IS OF BULK AT MOST 1048576: true; the input reads as it did. -/
def coversGreatestUptoRow : OpenClaim := { program := "ytanhjgneaaenpaa", sum := "7216911c1b9092ed68ed5b9dac22e38899afb93b4e3d320244c959d69bd04359", func := "gherkin/gherkinlaw04.CoversGreatest", spec := "coversGreatest", unfollowed := true, recurses := true, apart := false, narrowed := true }
def CoversGreatestUptoSaid : Prop := coversGreatestUptoRow.holds Try.pinned (OpenSpec.upto coversGreatestSpec)

/-- 'gherkinlaw04.CoversParted', WHERE WHAT IT READS IS OF BULK AT MOST 1048576: true; the input reads as it did. -/
def coversPartedUptoRow : OpenClaim := { program := "ytanhjgneaaenpaa", sum := "7216911c1b9092ed68ed5b9dac22e38899afb93b4e3d320244c959d69bd04359", func := "gherkin/gherkinlaw04.CoversParted", spec := "coversParted", unfollowed := true, recurses := true, apart := false, narrowed := true }
def CoversPartedUptoSaid : Prop := coversPartedUptoRow.holds Try.pinned (OpenSpec.upto coversPartedSpec)

/-- 'gherkinlaw04.CoversApart', WHERE WHAT IT READS IS OF BULK AT MOST 1048576: true; the input reads as it did. -/
def coversApartUptoRow : OpenClaim := { program := "ytanhjgneaaenpaa", sum := "7216911c1b9092ed68ed5b9dac22e38899afb93b4e3d320244c959d69bd04359", func := "gherkin/gherkinlaw04.CoversApart", spec := "coversApart", unfollowed := true, recurses := true, apart := false, narrowed := true }
def CoversApartUptoSaid : Prop := coversApartUptoRow.holds Try.pinned (OpenSpec.upto coversApartSpec)

/-- 'gherkinlaw04.CoversOrder', WHERE WHAT IT READS IS OF BULK AT MOST 1048576: true; the input reads as it did. -/
def coversOrderUptoRow : OpenClaim := { program := "ytanhjgneaaenpaa", sum := "7216911c1b9092ed68ed5b9dac22e38899afb93b4e3d320244c959d69bd04359", func := "gherkin/gherkinlaw04.CoversOrder", spec := "coversOrder", unfollowed := true, recurses := true, apart := false, narrowed := true }
def CoversOrderUptoSaid : Prop := coversOrderUptoRow.holds Try.pinned (OpenSpec.upto coversOrderSpec)

/-- 'gherkinlaw04.CoversAlways', WHERE WHAT IT READS IS OF BULK AT MOST 1048576: true; the input reads as it did. -/
def coversAlwaysUptoRow : OpenClaim := { program := "ytanhjgneaaenpaa", sum := "7216911c1b9092ed68ed5b9dac22e38899afb93b4e3d320244c959d69bd04359", func := "gherkin/gherkinlaw04.CoversAlways", spec := "coversAlways", unfollowed := true, recurses := true, apart := false, narrowed := true }
def CoversAlwaysUptoSaid : Prop := coversAlwaysUptoRow.holds Try.pinned (OpenSpec.upto coversAlwaysSpec)

/-- 'gherkinlaw04.CoversMoves', WHERE WHAT IT READS IS OF BULK AT MOST 1048576: true; the input reads as it did. -/
def coversMovesUptoRow : OpenClaim := { program := "ytanhjgneaaenpaa", sum := "7216911c1b9092ed68ed5b9dac22e38899afb93b4e3d320244c959d69bd04359", func := "gherkin/gherkinlaw04.CoversMoves", spec := "coversMoves", unfollowed := true, recurses := true, apart := false, narrowed := true }
def CoversMovesUptoSaid : Prop := coversMovesUptoRow.holds Try.pinned (OpenSpec.upto coversMovesSpec)

end Rows
end Go.Proofs.Ytanhjgneaaenpaa
