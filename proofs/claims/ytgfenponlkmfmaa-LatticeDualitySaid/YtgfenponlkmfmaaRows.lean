/-
  No cell of these rows narrows 'for every input' (looked for: loops, veiled, ifaces, maps, wideKeys, modest, calm, conditions, laid).
  DERIVED. THE GIVEN ROWS OF THIS SEAT. 15 by the template 'for every input the law returns true; each argument reads behind the call as it read before'; 0 by the template 'total and deterministic' (their statements: YtgfenponlkmfmaaTotals.lean).
  GIVEN WITH THE SEED: the statements are not yours to turn. If you find one false, say at which input.
  Laid BY PROGRAM, IN A SANDBOX (cutbox-rows.mjs): the forced cells as the released guide's own fill.sh prints them over the translation 9ab53042a8eb03c7… (all of the seat's roots in one cut). By AI agents, Wed Nov 11 2026. No macro, syntax, notation, axiom, sorry.
-/
import Derived.Test.YtgfenponlkmfmaaChecked
import GoSem.Claim
import GoSem.ClaimJoined
import GoSem.ClaimMapViews
import Derived.JoinedTies
import Derived.KernelRfl
namespace Go.Proofs.Ytgfenponlkmfmaa
/- THE CELL 'sum', in the pinned program and in every row, IS THE sha256 OF THE DUMP (.gsa) THAT YtgfenponlkmfmaaProg.lean LOADS. Nothing in Lean hashes anything: it is a label: what it is worth is what the hold of that sum in a sandbox is worth. -/
noncomputable def Try.pinned : Pinned := { name := "ytgfenponlkmfmaa", sum := "9ab53042a8eb03c7b9da69b27100af67cfad23aa954cf6f7c84869d57f330811", checked := Try.checked }
namespace Rows
def none {H : Type} : Left H := { results := [], args := [] }

/-- 'gherkinlaw07.LatticeForms': WHATEVER THE INPUT: true; the input reads as it did. -/
def latticeFormsSpec : ChangeSpec := { name := "latticeForms", fn := fun _ => fun
  | [d1, d2] => { results := [.lit (.bool true)], args := [d1, d2] }
  | _ => none }
def latticeFormsRow : OpenClaim := { program := "ytgfenponlkmfmaa", sum := "9ab53042a8eb03c7b9da69b27100af67cfad23aa954cf6f7c84869d57f330811", func := "gherkin/gherkinlaw07.LatticeForms", spec := "latticeForms", unfollowed := true, recurses := true, apart := false }
def LatticeFormsSaid : Prop := latticeFormsRow.holds Try.pinned (OpenSpec.ofChange latticeFormsSpec)

/-- ITS FALSE NEIGHBOUR: 'it returns false'. Refute it at one input. -/
def latticeFormsWrong : ChangeSpec := { name := "latticeForms", fn := fun _ => fun
  | [d1, d2] => { results := [.lit (.bool false)], args := [d1, d2] }
  | _ => none }
def LatticeFormsWrongFalsely : Prop := latticeFormsRow.holds Try.pinned (OpenSpec.ofChange latticeFormsWrong)

/-- 'gherkinlaw07.LatticeHas': WHATEVER THE INPUT: true; the input reads as it did. -/
def latticeHasSpec : ChangeSpec := { name := "latticeHas", fn := fun _ => fun
  | [d1, d2] => { results := [.lit (.bool true)], args := [d1, d2] }
  | _ => none }
def latticeHasRow : OpenClaim := { program := "ytgfenponlkmfmaa", sum := "9ab53042a8eb03c7b9da69b27100af67cfad23aa954cf6f7c84869d57f330811", func := "gherkin/gherkinlaw07.LatticeHas", spec := "latticeHas", unfollowed := true, recurses := true, apart := false }
def LatticeHasSaid : Prop := latticeHasRow.holds Try.pinned (OpenSpec.ofChange latticeHasSpec)

/-- ITS FALSE NEIGHBOUR: 'it returns false'. Refute it at one input. -/
def latticeHasWrong : ChangeSpec := { name := "latticeHas", fn := fun _ => fun
  | [d1, d2] => { results := [.lit (.bool false)], args := [d1, d2] }
  | _ => none }
def LatticeHasWrongFalsely : Prop := latticeHasRow.holds Try.pinned (OpenSpec.ofChange latticeHasWrong)

/-- 'gherkinlaw07.LatticeHeights': WHATEVER THE INPUT: true; the input reads as it did. -/
def latticeHeightsSpec : ChangeSpec := { name := "latticeHeights", fn := fun _ => fun
  | [d] => { results := [.lit (.bool true)], args := [d] }
  | _ => none }
def latticeHeightsRow : OpenClaim := { program := "ytgfenponlkmfmaa", sum := "9ab53042a8eb03c7b9da69b27100af67cfad23aa954cf6f7c84869d57f330811", func := "gherkin/gherkinlaw07.LatticeHeights", spec := "latticeHeights", inPlace := ["math/bits.Add64"], unfollowed := true, recurses := true, apart := false }
def LatticeHeightsSaid : Prop := latticeHeightsRow.holds Try.pinned (OpenSpec.ofChange latticeHeightsSpec)

/-- ITS FALSE NEIGHBOUR: 'it returns false'. Refute it at one input. -/
def latticeHeightsWrong : ChangeSpec := { name := "latticeHeights", fn := fun _ => fun
  | [d] => { results := [.lit (.bool false)], args := [d] }
  | _ => none }
def LatticeHeightsWrongFalsely : Prop := latticeHeightsRow.holds Try.pinned (OpenSpec.ofChange latticeHeightsWrong)

/-- 'gherkinlaw07.LatticeReduces': WHATEVER THE INPUT: true; the input reads as it did. -/
def latticeReducesSpec : ChangeSpec := { name := "latticeReduces", fn := fun _ => fun
  | [d] => { results := [.lit (.bool true)], args := [d] }
  | _ => none }
def latticeReducesRow : OpenClaim := { program := "ytgfenponlkmfmaa", sum := "9ab53042a8eb03c7b9da69b27100af67cfad23aa954cf6f7c84869d57f330811", func := "gherkin/gherkinlaw07.LatticeReduces", spec := "latticeReduces", inPlace := ["math/bits.Add64"], unfollowed := true, recurses := true, apart := false }
def LatticeReducesSaid : Prop := latticeReducesRow.holds Try.pinned (OpenSpec.ofChange latticeReducesSpec)

/-- ITS FALSE NEIGHBOUR: 'it returns false'. Refute it at one input. -/
def latticeReducesWrong : ChangeSpec := { name := "latticeReduces", fn := fun _ => fun
  | [d] => { results := [.lit (.bool false)], args := [d] }
  | _ => none }
def LatticeReducesWrongFalsely : Prop := latticeReducesRow.holds Try.pinned (OpenSpec.ofChange latticeReducesWrong)

/-- 'gherkinlaw07.LatticeShort': WHATEVER THE INPUT: true; the input reads as it did. -/
def latticeShortSpec : ChangeSpec := { name := "latticeShort", fn := fun _ => fun
  | [d] => { results := [.lit (.bool true)], args := [d] }
  | _ => none }
def latticeShortRow : OpenClaim := { program := "ytgfenponlkmfmaa", sum := "9ab53042a8eb03c7b9da69b27100af67cfad23aa954cf6f7c84869d57f330811", func := "gherkin/gherkinlaw07.LatticeShort", spec := "latticeShort", unfollowed := true, recurses := true, apart := false }
def LatticeShortSaid : Prop := latticeShortRow.holds Try.pinned (OpenSpec.ofChange latticeShortSpec)

/-- ITS FALSE NEIGHBOUR: 'it returns false'. Refute it at one input. -/
def latticeShortWrong : ChangeSpec := { name := "latticeShort", fn := fun _ => fun
  | [d] => { results := [.lit (.bool false)], args := [d] }
  | _ => none }
def LatticeShortWrongFalsely : Prop := latticeShortRow.holds Try.pinned (OpenSpec.ofChange latticeShortWrong)

/-- 'gherkinlaw07.LatticeClosest': WHATEVER THE INPUT: true; the input reads as it did. -/
def latticeClosestSpec : ChangeSpec := { name := "latticeClosest", fn := fun _ => fun
  | [d1, d2] => { results := [.lit (.bool true)], args := [d1, d2] }
  | _ => none }
def latticeClosestRow : OpenClaim := { program := "ytgfenponlkmfmaa", sum := "9ab53042a8eb03c7b9da69b27100af67cfad23aa954cf6f7c84869d57f330811", func := "gherkin/gherkinlaw07.LatticeClosest", spec := "latticeClosest", unfollowed := true, recurses := true, apart := false }
def LatticeClosestSaid : Prop := latticeClosestRow.holds Try.pinned (OpenSpec.ofChange latticeClosestSpec)

/-- ITS FALSE NEIGHBOUR: 'it returns false'. Refute it at one input. -/
def latticeClosestWrong : ChangeSpec := { name := "latticeClosest", fn := fun _ => fun
  | [d1, d2] => { results := [.lit (.bool false)], args := [d1, d2] }
  | _ => none }
def LatticeClosestWrongFalsely : Prop := latticeClosestRow.holds Try.pinned (OpenSpec.ofChange latticeClosestWrong)

/-- 'gherkinlaw07.LatticeTheta': WHATEVER THE INPUT: true; the input reads as it did. -/
def latticeThetaSpec : ChangeSpec := { name := "latticeTheta", fn := fun _ => fun
  | [d1, d2] => { results := [.lit (.bool true)], args := [d1, d2] }
  | _ => none }
def latticeThetaRow : OpenClaim := { program := "ytgfenponlkmfmaa", sum := "9ab53042a8eb03c7b9da69b27100af67cfad23aa954cf6f7c84869d57f330811", func := "gherkin/gherkinlaw07.LatticeTheta", spec := "latticeTheta", unfollowed := true, recurses := true, apart := false }
def LatticeThetaSaid : Prop := latticeThetaRow.holds Try.pinned (OpenSpec.ofChange latticeThetaSpec)

/-- ITS FALSE NEIGHBOUR: 'it returns false'. Refute it at one input. -/
def latticeThetaWrong : ChangeSpec := { name := "latticeTheta", fn := fun _ => fun
  | [d1, d2] => { results := [.lit (.bool false)], args := [d1, d2] }
  | _ => none }
def LatticeThetaWrongFalsely : Prop := latticeThetaRow.holds Try.pinned (OpenSpec.ofChange latticeThetaWrong)

/-- 'gherkinlaw07.LatticeSame': WHATEVER THE INPUT: true; the input reads as it did. -/
def latticeSameSpec : ChangeSpec := { name := "latticeSame", fn := fun _ => fun
  | [d1, d2, d3, d4] => { results := [.lit (.bool true)], args := [d1, d2, d3, d4] }
  | _ => none }
def latticeSameRow : OpenClaim := { program := "ytgfenponlkmfmaa", sum := "9ab53042a8eb03c7b9da69b27100af67cfad23aa954cf6f7c84869d57f330811", func := "gherkin/gherkinlaw07.LatticeSame", spec := "latticeSame", unfollowed := true, recurses := true, apart := false }
def LatticeSameSaid : Prop := latticeSameRow.holds Try.pinned (OpenSpec.ofChange latticeSameSpec)

/-- ITS FALSE NEIGHBOUR: 'it returns false'. Refute it at one input. -/
def latticeSameWrong : ChangeSpec := { name := "latticeSame", fn := fun _ => fun
  | [d1, d2, d3, d4] => { results := [.lit (.bool false)], args := [d1, d2, d3, d4] }
  | _ => none }
def LatticeSameWrongFalsely : Prop := latticeSameRow.holds Try.pinned (OpenSpec.ofChange latticeSameWrong)

/-- 'gherkinlaw07.LatticeVolumes': WHATEVER THE INPUT: true; the input reads as it did. -/
def latticeVolumesSpec : ChangeSpec := { name := "latticeVolumes", fn := fun _ => fun
  | [d] => { results := [.lit (.bool true)], args := [d] }
  | _ => none }
def latticeVolumesRow : OpenClaim := { program := "ytgfenponlkmfmaa", sum := "9ab53042a8eb03c7b9da69b27100af67cfad23aa954cf6f7c84869d57f330811", func := "gherkin/gherkinlaw07.LatticeVolumes", spec := "latticeVolumes", unfollowed := true, recurses := true, apart := false }
def LatticeVolumesSaid : Prop := latticeVolumesRow.holds Try.pinned (OpenSpec.ofChange latticeVolumesSpec)

/-- ITS FALSE NEIGHBOUR: 'it returns false'. Refute it at one input. -/
def latticeVolumesWrong : ChangeSpec := { name := "latticeVolumes", fn := fun _ => fun
  | [d] => { results := [.lit (.bool false)], args := [d] }
  | _ => none }
def LatticeVolumesWrongFalsely : Prop := latticeVolumesRow.holds Try.pinned (OpenSpec.ofChange latticeVolumesWrong)

/-- 'gherkinlaw07.LatticeFirst': WHATEVER THE INPUT: true; the input reads as it did. -/
def latticeFirstSpec : ChangeSpec := { name := "latticeFirst", fn := fun _ => fun
  | [d] => { results := [.lit (.bool true)], args := [d] }
  | _ => none }
def latticeFirstRow : OpenClaim := { program := "ytgfenponlkmfmaa", sum := "9ab53042a8eb03c7b9da69b27100af67cfad23aa954cf6f7c84869d57f330811", func := "gherkin/gherkinlaw07.LatticeFirst", spec := "latticeFirst", unfollowed := true, recurses := true, apart := false }
def LatticeFirstSaid : Prop := latticeFirstRow.holds Try.pinned (OpenSpec.ofChange latticeFirstSpec)

/-- ITS FALSE NEIGHBOUR: 'it returns false'. Refute it at one input. -/
def latticeFirstWrong : ChangeSpec := { name := "latticeFirst", fn := fun _ => fun
  | [d] => { results := [.lit (.bool false)], args := [d] }
  | _ => none }
def LatticeFirstWrongFalsely : Prop := latticeFirstRow.holds Try.pinned (OpenSpec.ofChange latticeFirstWrong)

/-- 'gherkinlaw07.LatticeMinkowski': WHATEVER THE INPUT: true; the input reads as it did. -/
def latticeMinkowskiSpec : ChangeSpec := { name := "latticeMinkowski", fn := fun _ => fun
  | [d] => { results := [.lit (.bool true)], args := [d] }
  | _ => none }
def latticeMinkowskiRow : OpenClaim := { program := "ytgfenponlkmfmaa", sum := "9ab53042a8eb03c7b9da69b27100af67cfad23aa954cf6f7c84869d57f330811", func := "gherkin/gherkinlaw07.LatticeMinkowski", spec := "latticeMinkowski", unfollowed := true, recurses := true, apart := false }
def LatticeMinkowskiSaid : Prop := latticeMinkowskiRow.holds Try.pinned (OpenSpec.ofChange latticeMinkowskiSpec)

/-- ITS FALSE NEIGHBOUR: 'it returns false'. Refute it at one input. -/
def latticeMinkowskiWrong : ChangeSpec := { name := "latticeMinkowski", fn := fun _ => fun
  | [d] => { results := [.lit (.bool false)], args := [d] }
  | _ => none }
def LatticeMinkowskiWrongFalsely : Prop := latticeMinkowskiRow.holds Try.pinned (OpenSpec.ofChange latticeMinkowskiWrong)

/-- 'gherkinlaw07.LatticeNearest': WHATEVER THE INPUT: true; the input reads as it did. -/
def latticeNearestSpec : ChangeSpec := { name := "latticeNearest", fn := fun _ => fun
  | [d1, d2, d3] => { results := [.lit (.bool true)], args := [d1, d2, d3] }
  | _ => none }
def latticeNearestRow : OpenClaim := { program := "ytgfenponlkmfmaa", sum := "9ab53042a8eb03c7b9da69b27100af67cfad23aa954cf6f7c84869d57f330811", func := "gherkin/gherkinlaw07.LatticeNearest", spec := "latticeNearest", unfollowed := true, recurses := true, apart := false }
def LatticeNearestSaid : Prop := latticeNearestRow.holds Try.pinned (OpenSpec.ofChange latticeNearestSpec)

/-- ITS FALSE NEIGHBOUR: 'it returns false'. Refute it at one input. -/
def latticeNearestWrong : ChangeSpec := { name := "latticeNearest", fn := fun _ => fun
  | [d1, d2, d3] => { results := [.lit (.bool false)], args := [d1, d2, d3] }
  | _ => none }
def LatticeNearestWrongFalsely : Prop := latticeNearestRow.holds Try.pinned (OpenSpec.ofChange latticeNearestWrong)

/-- 'gherkinlaw07.LatticeCounts': WHATEVER THE INPUT: true; the input reads as it did. -/
def latticeCountsSpec : ChangeSpec := { name := "latticeCounts", fn := fun _ => fun
  | [d1, d2, d3] => { results := [.lit (.bool true)], args := [d1, d2, d3] }
  | _ => none }
def latticeCountsRow : OpenClaim := { program := "ytgfenponlkmfmaa", sum := "9ab53042a8eb03c7b9da69b27100af67cfad23aa954cf6f7c84869d57f330811", func := "gherkin/gherkinlaw07.LatticeCounts", spec := "latticeCounts", unfollowed := true, recurses := true, apart := false }
def LatticeCountsSaid : Prop := latticeCountsRow.holds Try.pinned (OpenSpec.ofChange latticeCountsSpec)

/-- ITS FALSE NEIGHBOUR: 'it returns false'. Refute it at one input. -/
def latticeCountsWrong : ChangeSpec := { name := "latticeCounts", fn := fun _ => fun
  | [d1, d2, d3] => { results := [.lit (.bool false)], args := [d1, d2, d3] }
  | _ => none }
def LatticeCountsWrongFalsely : Prop := latticeCountsRow.holds Try.pinned (OpenSpec.ofChange latticeCountsWrong)

/-- 'gherkinlaw07.LatticeJacobi': WHATEVER THE INPUT: true; the input reads as it did. -/
def latticeJacobiSpec : ChangeSpec := { name := "latticeJacobi", fn := fun _ => fun
  | [d] => { results := [.lit (.bool true)], args := [d] }
  | _ => none }
def latticeJacobiRow : OpenClaim := { program := "ytgfenponlkmfmaa", sum := "9ab53042a8eb03c7b9da69b27100af67cfad23aa954cf6f7c84869d57f330811", func := "gherkin/gherkinlaw07.LatticeJacobi", spec := "latticeJacobi", unfollowed := true, recurses := true, apart := false }
def LatticeJacobiSaid : Prop := latticeJacobiRow.holds Try.pinned (OpenSpec.ofChange latticeJacobiSpec)

/-- ITS FALSE NEIGHBOUR: 'it returns false'. Refute it at one input. -/
def latticeJacobiWrong : ChangeSpec := { name := "latticeJacobi", fn := fun _ => fun
  | [d] => { results := [.lit (.bool false)], args := [d] }
  | _ => none }
def LatticeJacobiWrongFalsely : Prop := latticeJacobiRow.holds Try.pinned (OpenSpec.ofChange latticeJacobiWrong)

/-- 'gherkinlaw07.LatticeDuality': WHATEVER THE INPUT: true; the input reads as it did. -/
def latticeDualitySpec : ChangeSpec := { name := "latticeDuality", fn := fun _ => fun
  | [d1, d2] => { results := [.lit (.bool true)], args := [d1, d2] }
  | _ => none }
def latticeDualityRow : OpenClaim := { program := "ytgfenponlkmfmaa", sum := "9ab53042a8eb03c7b9da69b27100af67cfad23aa954cf6f7c84869d57f330811", func := "gherkin/gherkinlaw07.LatticeDuality", spec := "latticeDuality", unfollowed := true, recurses := true, apart := false }
def LatticeDualitySaid : Prop := latticeDualityRow.holds Try.pinned (OpenSpec.ofChange latticeDualitySpec)

/-- ITS FALSE NEIGHBOUR: 'it returns false'. Refute it at one input. -/
def latticeDualityWrong : ChangeSpec := { name := "latticeDuality", fn := fun _ => fun
  | [d1, d2] => { results := [.lit (.bool false)], args := [d1, d2] }
  | _ => none }
def LatticeDualityWrongFalsely : Prop := latticeDualityRow.holds Try.pinned (OpenSpec.ofChange latticeDualityWrong)

/- THE SECOND FORM. 'bulk': how many values and letters a reading holds, each counted each time it is reached (what is shared counts as often as it is met; a slice's spare places count too). A statement '..UptoSaid' is the law's where the arguments, and the package variables that the reading takes, are together of bulk at most 1048576: NARROWER than '..Said'. Prove '..Said' where nothing that the law and all that it calls make is longer than what came in: it says more and counts as full. Else prove '..UptoSaid'. A law counts once. -/
mutual
def uptoBulk {H : Type} : DataW H → Nat
  | .lit (.string bytes) => bytes.length + 1
  | .lit _ => 1
  | .nil => 1
  | .ptr d => uptoBulk d + 1
  | .slice elems spare => uptoBulkAll elems + uptoBulkAll spare + 1
  | .agg parts => uptoBulkAll parts + 1
  | .iface _ d => uptoBulk d + 1
  | .map entries => uptoBulkEntries entries + 1
  | .held _ => 1
def uptoBulkAll {H : Type} : List (DataW H) → Nat
  | [] => 0
  | d :: r => uptoBulk d + uptoBulkAll r
def uptoBulkEntries {H : Type} : List (Lit × DataW H) → Nat
  | [] => 0
  | x :: r => uptoBulkEntry x + uptoBulkEntries r
def uptoBulkEntry {H : Type} : Lit × DataW H → Nat
  | (.string bytes, d) => bytes.length + uptoBulk d + 1
  | (_, d) => uptoBulk d + 1
 end
def uptoSmall : (H : Type) → List (DataW H) → Bool := fun _ ds => decide (uptoBulkAll ds ≤ 1048576)
def OpenSpec.upto (s : _root_.Go.ChangeSpec) : _root_.Go.OpenSpec := { _root_.Go.OpenSpec.ofChange s with cond := some uptoSmall }

/-- 'gherkinlaw07.LatticeForms', WHERE WHAT IT READS IS OF BULK AT MOST 1048576: true; the input reads as it did. -/
def latticeFormsUptoRow : OpenClaim := { program := "ytgfenponlkmfmaa", sum := "9ab53042a8eb03c7b9da69b27100af67cfad23aa954cf6f7c84869d57f330811", func := "gherkin/gherkinlaw07.LatticeForms", spec := "latticeForms", unfollowed := true, recurses := true, apart := false, narrowed := true }
def LatticeFormsUptoSaid : Prop := latticeFormsUptoRow.holds Try.pinned (OpenSpec.upto latticeFormsSpec)

/-- 'gherkinlaw07.LatticeHas', WHERE WHAT IT READS IS OF BULK AT MOST 1048576: true; the input reads as it did. -/
def latticeHasUptoRow : OpenClaim := { program := "ytgfenponlkmfmaa", sum := "9ab53042a8eb03c7b9da69b27100af67cfad23aa954cf6f7c84869d57f330811", func := "gherkin/gherkinlaw07.LatticeHas", spec := "latticeHas", unfollowed := true, recurses := true, apart := false, narrowed := true }
def LatticeHasUptoSaid : Prop := latticeHasUptoRow.holds Try.pinned (OpenSpec.upto latticeHasSpec)

/-- 'gherkinlaw07.LatticeHeights', WHERE WHAT IT READS IS OF BULK AT MOST 1048576: true; the input reads as it did. -/
def latticeHeightsUptoRow : OpenClaim := { program := "ytgfenponlkmfmaa", sum := "9ab53042a8eb03c7b9da69b27100af67cfad23aa954cf6f7c84869d57f330811", func := "gherkin/gherkinlaw07.LatticeHeights", spec := "latticeHeights", inPlace := ["math/bits.Add64"], unfollowed := true, recurses := true, apart := false, narrowed := true }
def LatticeHeightsUptoSaid : Prop := latticeHeightsUptoRow.holds Try.pinned (OpenSpec.upto latticeHeightsSpec)

/-- 'gherkinlaw07.LatticeReduces', WHERE WHAT IT READS IS OF BULK AT MOST 1048576: true; the input reads as it did. -/
def latticeReducesUptoRow : OpenClaim := { program := "ytgfenponlkmfmaa", sum := "9ab53042a8eb03c7b9da69b27100af67cfad23aa954cf6f7c84869d57f330811", func := "gherkin/gherkinlaw07.LatticeReduces", spec := "latticeReduces", inPlace := ["math/bits.Add64"], unfollowed := true, recurses := true, apart := false, narrowed := true }
def LatticeReducesUptoSaid : Prop := latticeReducesUptoRow.holds Try.pinned (OpenSpec.upto latticeReducesSpec)

/-- 'gherkinlaw07.LatticeShort', WHERE WHAT IT READS IS OF BULK AT MOST 1048576: true; the input reads as it did. -/
def latticeShortUptoRow : OpenClaim := { program := "ytgfenponlkmfmaa", sum := "9ab53042a8eb03c7b9da69b27100af67cfad23aa954cf6f7c84869d57f330811", func := "gherkin/gherkinlaw07.LatticeShort", spec := "latticeShort", unfollowed := true, recurses := true, apart := false, narrowed := true }
def LatticeShortUptoSaid : Prop := latticeShortUptoRow.holds Try.pinned (OpenSpec.upto latticeShortSpec)

/-- 'gherkinlaw07.LatticeClosest', WHERE WHAT IT READS IS OF BULK AT MOST 1048576: true; the input reads as it did. -/
def latticeClosestUptoRow : OpenClaim := { program := "ytgfenponlkmfmaa", sum := "9ab53042a8eb03c7b9da69b27100af67cfad23aa954cf6f7c84869d57f330811", func := "gherkin/gherkinlaw07.LatticeClosest", spec := "latticeClosest", unfollowed := true, recurses := true, apart := false, narrowed := true }
def LatticeClosestUptoSaid : Prop := latticeClosestUptoRow.holds Try.pinned (OpenSpec.upto latticeClosestSpec)

/-- 'gherkinlaw07.LatticeTheta', WHERE WHAT IT READS IS OF BULK AT MOST 1048576: true; the input reads as it did. -/
def latticeThetaUptoRow : OpenClaim := { program := "ytgfenponlkmfmaa", sum := "9ab53042a8eb03c7b9da69b27100af67cfad23aa954cf6f7c84869d57f330811", func := "gherkin/gherkinlaw07.LatticeTheta", spec := "latticeTheta", unfollowed := true, recurses := true, apart := false, narrowed := true }
def LatticeThetaUptoSaid : Prop := latticeThetaUptoRow.holds Try.pinned (OpenSpec.upto latticeThetaSpec)

/-- 'gherkinlaw07.LatticeSame', WHERE WHAT IT READS IS OF BULK AT MOST 1048576: true; the input reads as it did. -/
def latticeSameUptoRow : OpenClaim := { program := "ytgfenponlkmfmaa", sum := "9ab53042a8eb03c7b9da69b27100af67cfad23aa954cf6f7c84869d57f330811", func := "gherkin/gherkinlaw07.LatticeSame", spec := "latticeSame", unfollowed := true, recurses := true, apart := false, narrowed := true }
def LatticeSameUptoSaid : Prop := latticeSameUptoRow.holds Try.pinned (OpenSpec.upto latticeSameSpec)

/-- 'gherkinlaw07.LatticeVolumes', WHERE WHAT IT READS IS OF BULK AT MOST 1048576: true; the input reads as it did. -/
def latticeVolumesUptoRow : OpenClaim := { program := "ytgfenponlkmfmaa", sum := "9ab53042a8eb03c7b9da69b27100af67cfad23aa954cf6f7c84869d57f330811", func := "gherkin/gherkinlaw07.LatticeVolumes", spec := "latticeVolumes", unfollowed := true, recurses := true, apart := false, narrowed := true }
def LatticeVolumesUptoSaid : Prop := latticeVolumesUptoRow.holds Try.pinned (OpenSpec.upto latticeVolumesSpec)

/-- 'gherkinlaw07.LatticeFirst', WHERE WHAT IT READS IS OF BULK AT MOST 1048576: true; the input reads as it did. -/
def latticeFirstUptoRow : OpenClaim := { program := "ytgfenponlkmfmaa", sum := "9ab53042a8eb03c7b9da69b27100af67cfad23aa954cf6f7c84869d57f330811", func := "gherkin/gherkinlaw07.LatticeFirst", spec := "latticeFirst", unfollowed := true, recurses := true, apart := false, narrowed := true }
def LatticeFirstUptoSaid : Prop := latticeFirstUptoRow.holds Try.pinned (OpenSpec.upto latticeFirstSpec)

/-- 'gherkinlaw07.LatticeMinkowski', WHERE WHAT IT READS IS OF BULK AT MOST 1048576: true; the input reads as it did. -/
def latticeMinkowskiUptoRow : OpenClaim := { program := "ytgfenponlkmfmaa", sum := "9ab53042a8eb03c7b9da69b27100af67cfad23aa954cf6f7c84869d57f330811", func := "gherkin/gherkinlaw07.LatticeMinkowski", spec := "latticeMinkowski", unfollowed := true, recurses := true, apart := false, narrowed := true }
def LatticeMinkowskiUptoSaid : Prop := latticeMinkowskiUptoRow.holds Try.pinned (OpenSpec.upto latticeMinkowskiSpec)

/-- 'gherkinlaw07.LatticeNearest', WHERE WHAT IT READS IS OF BULK AT MOST 1048576: true; the input reads as it did. -/
def latticeNearestUptoRow : OpenClaim := { program := "ytgfenponlkmfmaa", sum := "9ab53042a8eb03c7b9da69b27100af67cfad23aa954cf6f7c84869d57f330811", func := "gherkin/gherkinlaw07.LatticeNearest", spec := "latticeNearest", unfollowed := true, recurses := true, apart := false, narrowed := true }
def LatticeNearestUptoSaid : Prop := latticeNearestUptoRow.holds Try.pinned (OpenSpec.upto latticeNearestSpec)

/-- 'gherkinlaw07.LatticeCounts', WHERE WHAT IT READS IS OF BULK AT MOST 1048576: true; the input reads as it did. -/
def latticeCountsUptoRow : OpenClaim := { program := "ytgfenponlkmfmaa", sum := "9ab53042a8eb03c7b9da69b27100af67cfad23aa954cf6f7c84869d57f330811", func := "gherkin/gherkinlaw07.LatticeCounts", spec := "latticeCounts", unfollowed := true, recurses := true, apart := false, narrowed := true }
def LatticeCountsUptoSaid : Prop := latticeCountsUptoRow.holds Try.pinned (OpenSpec.upto latticeCountsSpec)

/-- 'gherkinlaw07.LatticeJacobi', WHERE WHAT IT READS IS OF BULK AT MOST 1048576: true; the input reads as it did. -/
def latticeJacobiUptoRow : OpenClaim := { program := "ytgfenponlkmfmaa", sum := "9ab53042a8eb03c7b9da69b27100af67cfad23aa954cf6f7c84869d57f330811", func := "gherkin/gherkinlaw07.LatticeJacobi", spec := "latticeJacobi", unfollowed := true, recurses := true, apart := false, narrowed := true }
def LatticeJacobiUptoSaid : Prop := latticeJacobiUptoRow.holds Try.pinned (OpenSpec.upto latticeJacobiSpec)

/-- 'gherkinlaw07.LatticeDuality', WHERE WHAT IT READS IS OF BULK AT MOST 1048576: true; the input reads as it did. -/
def latticeDualityUptoRow : OpenClaim := { program := "ytgfenponlkmfmaa", sum := "9ab53042a8eb03c7b9da69b27100af67cfad23aa954cf6f7c84869d57f330811", func := "gherkin/gherkinlaw07.LatticeDuality", spec := "latticeDuality", unfollowed := true, recurses := true, apart := false, narrowed := true }
def LatticeDualityUptoSaid : Prop := latticeDualityUptoRow.holds Try.pinned (OpenSpec.upto latticeDualitySpec)

end Rows
end Go.Proofs.Ytgfenponlkmfmaa
