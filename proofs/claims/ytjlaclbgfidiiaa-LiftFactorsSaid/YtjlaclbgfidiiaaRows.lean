/-
  No cell of these rows narrows 'for every input' (looked for: loops, veiled, ifaces, maps, wideKeys, modest, calm, conditions, laid).
  DERIVED. THE GIVEN ROWS OF THIS SEAT. 13 by the template 'for every input the law returns true; each argument reads behind the call as it read before'; 0 by the template 'total and deterministic' (their statements: YtjlaclbgfidiiaaTotals.lean).
  GIVEN WITH THE SEED: the statements are not yours to turn. If you find one false, say at which input.
  Laid BY PROGRAM, IN A SANDBOX (cutbox-rows.mjs): the forced cells as the released guide's own fill.sh prints them over the translation f70c4c766fe5caf8… (all of the seat's roots in one cut). By AI agents, Wed Nov 11 2026. No macro, syntax, notation, axiom, sorry.
-/
import Derived.Test.YtjlaclbgfidiiaaChecked
import GoSem.Claim
import GoSem.ClaimJoined
import GoSem.ClaimMapViews
import Derived.JoinedTies
import Derived.KernelRfl
namespace Go.Proofs.Ytjlaclbgfidiiaa
/- THE CELL 'sum', in the pinned program and in every row, IS THE sha256 OF THE DUMP (.gsa) THAT YtjlaclbgfidiiaaProg.lean LOADS. Nothing in Lean hashes anything: it is a label: what it is worth is what the hold of that sum in a sandbox is worth. -/
noncomputable def Try.pinned : Pinned := { name := "ytjlaclbgfidiiaa", sum := "f70c4c766fe5caf888882229720d987e51d69fe8b4be638f839444308517c472", checked := Try.checked }
namespace Rows
def none {H : Type} : Left H := { results := [], args := [] }

/-- 'gherkinlaw06.LiftRoots': WHATEVER THE INPUT: true; the input reads as it did. -/
def liftRootsSpec : ChangeSpec := { name := "liftRoots", fn := fun _ => fun
  | [d1, d2, d3, d4] => { results := [.lit (.bool true)], args := [d1, d2, d3, d4] }
  | _ => none }
def liftRootsRow : OpenClaim := { program := "ytjlaclbgfidiiaa", sum := "f70c4c766fe5caf888882229720d987e51d69fe8b4be638f839444308517c472", func := "gherkin/gherkinlaw06.LiftRoots", spec := "liftRoots", unfollowed := true, recurses := true, apart := false }
def LiftRootsSaid : Prop := liftRootsRow.holds Try.pinned (OpenSpec.ofChange liftRootsSpec)

/-- ITS FALSE NEIGHBOUR: 'it returns false'. Refute it at one input. -/
def liftRootsWrong : ChangeSpec := { name := "liftRoots", fn := fun _ => fun
  | [d1, d2, d3, d4] => { results := [.lit (.bool false)], args := [d1, d2, d3, d4] }
  | _ => none }
def LiftRootsWrongFalsely : Prop := liftRootsRow.holds Try.pinned (OpenSpec.ofChange liftRootsWrong)

/-- 'gherkinlaw06.LiftSides': WHATEVER THE INPUT: true; the input reads as it did. -/
def liftSidesSpec : ChangeSpec := { name := "liftSides", fn := fun _ => fun
  | [d1, d2] => { results := [.lit (.bool true)], args := [d1, d2] }
  | _ => none }
def liftSidesRow : OpenClaim := { program := "ytjlaclbgfidiiaa", sum := "f70c4c766fe5caf888882229720d987e51d69fe8b4be638f839444308517c472", func := "gherkin/gherkinlaw06.LiftSides", spec := "liftSides", unfollowed := true, recurses := true, apart := false }
def LiftSidesSaid : Prop := liftSidesRow.holds Try.pinned (OpenSpec.ofChange liftSidesSpec)

/-- ITS FALSE NEIGHBOUR: 'it returns false'. Refute it at one input. -/
def liftSidesWrong : ChangeSpec := { name := "liftSides", fn := fun _ => fun
  | [d1, d2] => { results := [.lit (.bool false)], args := [d1, d2] }
  | _ => none }
def LiftSidesWrongFalsely : Prop := liftSidesRow.holds Try.pinned (OpenSpec.ofChange liftSidesWrong)

/-- 'gherkinlaw06.LiftDigits': WHATEVER THE INPUT: true; the input reads as it did. -/
def liftDigitsSpec : ChangeSpec := { name := "liftDigits", fn := fun _ => fun
  | [d1, d2, d3, d4] => { results := [.lit (.bool true)], args := [d1, d2, d3, d4] }
  | _ => none }
def liftDigitsRow : OpenClaim := { program := "ytjlaclbgfidiiaa", sum := "f70c4c766fe5caf888882229720d987e51d69fe8b4be638f839444308517c472", func := "gherkin/gherkinlaw06.LiftDigits", spec := "liftDigits", unfollowed := true, recurses := true, apart := false }
def LiftDigitsSaid : Prop := liftDigitsRow.holds Try.pinned (OpenSpec.ofChange liftDigitsSpec)

/-- ITS FALSE NEIGHBOUR: 'it returns false'. Refute it at one input. -/
def liftDigitsWrong : ChangeSpec := { name := "liftDigits", fn := fun _ => fun
  | [d1, d2, d3, d4] => { results := [.lit (.bool false)], args := [d1, d2, d3, d4] }
  | _ => none }
def LiftDigitsWrongFalsely : Prop := liftDigitsRow.holds Try.pinned (OpenSpec.ofChange liftDigitsWrong)

/-- 'gherkinlaw06.LiftTeich': WHATEVER THE INPUT: true; the input reads as it did. -/
def liftTeichSpec : ChangeSpec := { name := "liftTeich", fn := fun _ => fun
  | [d1, d2, d3] => { results := [.lit (.bool true)], args := [d1, d2, d3] }
  | _ => none }
def liftTeichRow : OpenClaim := { program := "ytjlaclbgfidiiaa", sum := "f70c4c766fe5caf888882229720d987e51d69fe8b4be638f839444308517c472", func := "gherkin/gherkinlaw06.LiftTeich", spec := "liftTeich", unfollowed := true, recurses := true, apart := false }
def LiftTeichSaid : Prop := liftTeichRow.holds Try.pinned (OpenSpec.ofChange liftTeichSpec)

/-- ITS FALSE NEIGHBOUR: 'it returns false'. Refute it at one input. -/
def liftTeichWrong : ChangeSpec := { name := "liftTeich", fn := fun _ => fun
  | [d1, d2, d3] => { results := [.lit (.bool false)], args := [d1, d2, d3] }
  | _ => none }
def LiftTeichWrongFalsely : Prop := liftTeichRow.holds Try.pinned (OpenSpec.ofChange liftTeichWrong)

/-- 'gherkinlaw06.LiftTimes': WHATEVER THE INPUT: true; the input reads as it did. -/
def liftTimesSpec : ChangeSpec := { name := "liftTimes", fn := fun _ => fun
  | [d1, d2] => { results := [.lit (.bool true)], args := [d1, d2] }
  | _ => none }
def liftTimesRow : OpenClaim := { program := "ytjlaclbgfidiiaa", sum := "f70c4c766fe5caf888882229720d987e51d69fe8b4be638f839444308517c472", func := "gherkin/gherkinlaw06.LiftTimes", spec := "liftTimes", unfollowed := true, recurses := true, apart := false }
def LiftTimesSaid : Prop := liftTimesRow.holds Try.pinned (OpenSpec.ofChange liftTimesSpec)

/-- ITS FALSE NEIGHBOUR: 'it returns false'. Refute it at one input. -/
def liftTimesWrong : ChangeSpec := { name := "liftTimes", fn := fun _ => fun
  | [d1, d2] => { results := [.lit (.bool false)], args := [d1, d2] }
  | _ => none }
def LiftTimesWrongFalsely : Prop := liftTimesRow.holds Try.pinned (OpenSpec.ofChange liftTimesWrong)

/-- 'gherkinlaw06.LiftOnly': WHATEVER THE INPUT: true; the input reads as it did. -/
def liftOnlySpec : ChangeSpec := { name := "liftOnly", fn := fun _ => fun
  | [d1, d2, d3, d4] => { results := [.lit (.bool true)], args := [d1, d2, d3, d4] }
  | _ => none }
def liftOnlyRow : OpenClaim := { program := "ytjlaclbgfidiiaa", sum := "f70c4c766fe5caf888882229720d987e51d69fe8b4be638f839444308517c472", func := "gherkin/gherkinlaw06.LiftOnly", spec := "liftOnly", unfollowed := true, recurses := true, apart := false }
def LiftOnlySaid : Prop := liftOnlyRow.holds Try.pinned (OpenSpec.ofChange liftOnlySpec)

/-- ITS FALSE NEIGHBOUR: 'it returns false'. Refute it at one input. -/
def liftOnlyWrong : ChangeSpec := { name := "liftOnly", fn := fun _ => fun
  | [d1, d2, d3, d4] => { results := [.lit (.bool false)], args := [d1, d2, d3, d4] }
  | _ => none }
def LiftOnlyWrongFalsely : Prop := liftOnlyRow.holds Try.pinned (OpenSpec.ofChange liftOnlyWrong)

/-- 'gherkinlaw06.LiftFactors': WHATEVER THE INPUT: true; the input reads as it did. -/
def liftFactorsSpec : ChangeSpec := { name := "liftFactors", fn := fun _ => fun
  | [d1, d2, d3, d4] => { results := [.lit (.bool true)], args := [d1, d2, d3, d4] }
  | _ => none }
def liftFactorsRow : OpenClaim := { program := "ytjlaclbgfidiiaa", sum := "f70c4c766fe5caf888882229720d987e51d69fe8b4be638f839444308517c472", func := "gherkin/gherkinlaw06.LiftFactors", spec := "liftFactors", unfollowed := true, recurses := true, apart := false }
def LiftFactorsSaid : Prop := liftFactorsRow.holds Try.pinned (OpenSpec.ofChange liftFactorsSpec)

/-- ITS FALSE NEIGHBOUR: 'it returns false'. Refute it at one input. -/
def liftFactorsWrong : ChangeSpec := { name := "liftFactors", fn := fun _ => fun
  | [d1, d2, d3, d4] => { results := [.lit (.bool false)], args := [d1, d2, d3, d4] }
  | _ => none }
def LiftFactorsWrongFalsely : Prop := liftFactorsRow.holds Try.pinned (OpenSpec.ofChange liftFactorsWrong)

/-- 'gherkinlaw06.LiftPure': WHATEVER THE INPUT: true; the input reads as it did. -/
def liftPureSpec : ChangeSpec := { name := "liftPure", fn := fun _ => fun
  | [d1, d2, d3] => { results := [.lit (.bool true)], args := [d1, d2, d3] }
  | _ => none }
def liftPureRow : OpenClaim := { program := "ytjlaclbgfidiiaa", sum := "f70c4c766fe5caf888882229720d987e51d69fe8b4be638f839444308517c472", func := "gherkin/gherkinlaw06.LiftPure", spec := "liftPure", unfollowed := true, recurses := true, apart := false }
def LiftPureSaid : Prop := liftPureRow.holds Try.pinned (OpenSpec.ofChange liftPureSpec)

/-- ITS FALSE NEIGHBOUR: 'it returns false'. Refute it at one input. -/
def liftPureWrong : ChangeSpec := { name := "liftPure", fn := fun _ => fun
  | [d1, d2, d3] => { results := [.lit (.bool false)], args := [d1, d2, d3] }
  | _ => none }
def LiftPureWrongFalsely : Prop := liftPureRow.holds Try.pinned (OpenSpec.ofChange liftPureWrong)

/-- 'gherkinlaw06.LiftWhole': WHATEVER THE INPUT: true; the input reads as it did. -/
def liftWholeSpec : ChangeSpec := { name := "liftWhole", fn := fun _ => fun
  | [d1, d2, d3] => { results := [.lit (.bool true)], args := [d1, d2, d3] }
  | _ => none }
def liftWholeRow : OpenClaim := { program := "ytjlaclbgfidiiaa", sum := "f70c4c766fe5caf888882229720d987e51d69fe8b4be638f839444308517c472", func := "gherkin/gherkinlaw06.LiftWhole", spec := "liftWhole", unfollowed := true, recurses := true, apart := false }
def LiftWholeSaid : Prop := liftWholeRow.holds Try.pinned (OpenSpec.ofChange liftWholeSpec)

/-- ITS FALSE NEIGHBOUR: 'it returns false'. Refute it at one input. -/
def liftWholeWrong : ChangeSpec := { name := "liftWhole", fn := fun _ => fun
  | [d1, d2, d3] => { results := [.lit (.bool false)], args := [d1, d2, d3] }
  | _ => none }
def LiftWholeWrongFalsely : Prop := liftWholeRow.holds Try.pinned (OpenSpec.ofChange liftWholeWrong)

/-- 'gherkinlaw06.LiftPlaces': WHATEVER THE INPUT: true; the input reads as it did. -/
def liftPlacesSpec : ChangeSpec := { name := "liftPlaces", fn := fun _ => fun
  | [d1, d2, d3] => { results := [.lit (.bool true)], args := [d1, d2, d3] }
  | _ => none }
def liftPlacesRow : OpenClaim := { program := "ytjlaclbgfidiiaa", sum := "f70c4c766fe5caf888882229720d987e51d69fe8b4be638f839444308517c472", func := "gherkin/gherkinlaw06.LiftPlaces", spec := "liftPlaces", unfollowed := true, recurses := true, apart := false }
def LiftPlacesSaid : Prop := liftPlacesRow.holds Try.pinned (OpenSpec.ofChange liftPlacesSpec)

/-- ITS FALSE NEIGHBOUR: 'it returns false'. Refute it at one input. -/
def liftPlacesWrong : ChangeSpec := { name := "liftPlaces", fn := fun _ => fun
  | [d1, d2, d3] => { results := [.lit (.bool false)], args := [d1, d2, d3] }
  | _ => none }
def LiftPlacesWrongFalsely : Prop := liftPlacesRow.holds Try.pinned (OpenSpec.ofChange liftPlacesWrong)

/-- 'gherkinlaw06.LiftLetters': WHATEVER THE INPUT: true; the input reads as it did. -/
def liftLettersSpec : ChangeSpec := { name := "liftLetters", fn := fun _ => fun
  | [d1, d2, d3, d4] => { results := [.lit (.bool true)], args := [d1, d2, d3, d4] }
  | _ => none }
def liftLettersRow : OpenClaim := { program := "ytjlaclbgfidiiaa", sum := "f70c4c766fe5caf888882229720d987e51d69fe8b4be638f839444308517c472", func := "gherkin/gherkinlaw06.LiftLetters", spec := "liftLetters", unfollowed := true, recurses := true, apart := false }
def LiftLettersSaid : Prop := liftLettersRow.holds Try.pinned (OpenSpec.ofChange liftLettersSpec)

/-- ITS FALSE NEIGHBOUR: 'it returns false'. Refute it at one input. -/
def liftLettersWrong : ChangeSpec := { name := "liftLetters", fn := fun _ => fun
  | [d1, d2, d3, d4] => { results := [.lit (.bool false)], args := [d1, d2, d3, d4] }
  | _ => none }
def LiftLettersWrongFalsely : Prop := liftLettersRow.holds Try.pinned (OpenSpec.ofChange liftLettersWrong)

/-- 'gherkinlaw06.LiftSquares': WHATEVER THE INPUT: true; the input reads as it did. -/
def liftSquaresSpec : ChangeSpec := { name := "liftSquares", fn := fun _ => fun
  | [d1, d2, d3, d4] => { results := [.lit (.bool true)], args := [d1, d2, d3, d4] }
  | _ => none }
def liftSquaresRow : OpenClaim := { program := "ytjlaclbgfidiiaa", sum := "f70c4c766fe5caf888882229720d987e51d69fe8b4be638f839444308517c472", func := "gherkin/gherkinlaw06.LiftSquares", spec := "liftSquares", unfollowed := true, recurses := true, apart := false }
def LiftSquaresSaid : Prop := liftSquaresRow.holds Try.pinned (OpenSpec.ofChange liftSquaresSpec)

/-- ITS FALSE NEIGHBOUR: 'it returns false'. Refute it at one input. -/
def liftSquaresWrong : ChangeSpec := { name := "liftSquares", fn := fun _ => fun
  | [d1, d2, d3, d4] => { results := [.lit (.bool false)], args := [d1, d2, d3, d4] }
  | _ => none }
def LiftSquaresWrongFalsely : Prop := liftSquaresRow.holds Try.pinned (OpenSpec.ofChange liftSquaresWrong)

/-- 'gherkintop.TopOrder': WHATEVER THE INPUT: true; the input reads as it did. -/
def topOrderSpec : ChangeSpec := { name := "topOrder", fn := fun _ => fun
  | [d1, d2] => { results := [.lit (.bool true)], args := [d1, d2] }
  | _ => none }
def topOrderRow : OpenClaim := { program := "ytjlaclbgfidiiaa", sum := "f70c4c766fe5caf888882229720d987e51d69fe8b4be638f839444308517c472", func := "gherkin/gherkintop.TopOrder", spec := "topOrder", unfollowed := true, recurses := true, apart := false }
def TopOrderSaid : Prop := topOrderRow.holds Try.pinned (OpenSpec.ofChange topOrderSpec)

/-- ITS FALSE NEIGHBOUR: 'it returns false'. Refute it at one input. -/
def topOrderWrong : ChangeSpec := { name := "topOrder", fn := fun _ => fun
  | [d1, d2] => { results := [.lit (.bool false)], args := [d1, d2] }
  | _ => none }
def TopOrderWrongFalsely : Prop := topOrderRow.holds Try.pinned (OpenSpec.ofChange topOrderWrong)

/- THE SECOND FORM. 'bulk': how many values and letters a reading holds, each counted each time it is reached (what is shared counts as often as it is met; a slice's spare places count too). A statement '..UptoSaid' is the law's where the arguments, and the package variables that the reading takes, are together of bulk at most 1048576: NARROWER than '..Said'. Prove '..Said' where nothing that the law and all that it calls make is longer than what came in: it says more and counts as full. Else prove '..UptoSaid'. A law counts once. -/
mutual
def uptoBulk {H : Type} : DataW H → Nat
  | .lit (.string bytes) => bytes.length + 1
  | .lit _ => 1
  | .nil => 1
  | .ptr d => uptoBulk d + 1
  | .slice elems spare => uptoBulkAll elems + uptoBulkAll spare + 1
  | .agg parts => uptoBulkAll parts + 1
  | .iface _ d => uptoBulk d + 1
  | .map entries => uptoBulkEntries entries + 1
  | .held _ => 1
def uptoBulkAll {H : Type} : List (DataW H) → Nat
  | [] => 0
  | d :: r => uptoBulk d + uptoBulkAll r
def uptoBulkEntries {H : Type} : List (Lit × DataW H) → Nat
  | [] => 0
  | x :: r => uptoBulkEntry x + uptoBulkEntries r
def uptoBulkEntry {H : Type} : Lit × DataW H → Nat
  | (.string bytes, d) => bytes.length + uptoBulk d + 1
  | (_, d) => uptoBulk d + 1
 end
def uptoSmall : (H : Type) → List (DataW H) → Bool := fun _ ds => decide (uptoBulkAll ds ≤ 1048576)
def OpenSpec.upto (s : _root_.Go.ChangeSpec) : _root_.Go.OpenSpec := { _root_.Go.OpenSpec.ofChange s with cond := some uptoSmall }

/-- 'gherkinlaw06.LiftRoots', WHERE WHAT IT READS IS OF BULK AT MOST 1048576: true; the input reads as it did. -/
def liftRootsUptoRow : OpenClaim := { program := "ytjlaclbgfidiiaa", sum := "f70c4c766fe5caf888882229720d987e51d69fe8b4be638f839444308517c472", func := "gherkin/gherkinlaw06.LiftRoots", spec := "liftRoots", unfollowed := true, recurses := true, apart := false, narrowed := true }
def LiftRootsUptoSaid : Prop := liftRootsUptoRow.holds Try.pinned (OpenSpec.upto liftRootsSpec)

/-- 'gherkinlaw06.LiftSides', WHERE WHAT IT READS IS OF BULK AT MOST 1048576: true; the input reads as it did. -/
def liftSidesUptoRow : OpenClaim := { program := "ytjlaclbgfidiiaa", sum := "f70c4c766fe5caf888882229720d987e51d69fe8b4be638f839444308517c472", func := "gherkin/gherkinlaw06.LiftSides", spec := "liftSides", unfollowed := true, recurses := true, apart := false, narrowed := true }
def LiftSidesUptoSaid : Prop := liftSidesUptoRow.holds Try.pinned (OpenSpec.upto liftSidesSpec)

/-- 'gherkinlaw06.LiftDigits', WHERE WHAT IT READS IS OF BULK AT MOST 1048576: true; the input reads as it did. -/
def liftDigitsUptoRow : OpenClaim := { program := "ytjlaclbgfidiiaa", sum := "f70c4c766fe5caf888882229720d987e51d69fe8b4be638f839444308517c472", func := "gherkin/gherkinlaw06.LiftDigits", spec := "liftDigits", unfollowed := true, recurses := true, apart := false, narrowed := true }
def LiftDigitsUptoSaid : Prop := liftDigitsUptoRow.holds Try.pinned (OpenSpec.upto liftDigitsSpec)

/-- 'gherkinlaw06.LiftTeich', WHERE WHAT IT READS IS OF BULK AT MOST 1048576: true; the input reads as it did. -/
def liftTeichUptoRow : OpenClaim := { program := "ytjlaclbgfidiiaa", sum := "f70c4c766fe5caf888882229720d987e51d69fe8b4be638f839444308517c472", func := "gherkin/gherkinlaw06.LiftTeich", spec := "liftTeich", unfollowed := true, recurses := true, apart := false, narrowed := true }
def LiftTeichUptoSaid : Prop := liftTeichUptoRow.holds Try.pinned (OpenSpec.upto liftTeichSpec)

/-- 'gherkinlaw06.LiftTimes', WHERE WHAT IT READS IS OF BULK AT MOST 1048576: true; the input reads as it did. -/
def liftTimesUptoRow : OpenClaim := { program := "ytjlaclbgfidiiaa", sum := "f70c4c766fe5caf888882229720d987e51d69fe8b4be638f839444308517c472", func := "gherkin/gherkinlaw06.LiftTimes", spec := "liftTimes", unfollowed := true, recurses := true, apart := false, narrowed := true }
def LiftTimesUptoSaid : Prop := liftTimesUptoRow.holds Try.pinned (OpenSpec.upto liftTimesSpec)

/-- 'gherkinlaw06.LiftOnly', WHERE WHAT IT READS IS OF BULK AT MOST 1048576: true; the input reads as it did. -/
def liftOnlyUptoRow : OpenClaim := { program := "ytjlaclbgfidiiaa", sum := "f70c4c766fe5caf888882229720d987e51d69fe8b4be638f839444308517c472", func := "gherkin/gherkinlaw06.LiftOnly", spec := "liftOnly", unfollowed := true, recurses := true, apart := false, narrowed := true }
def LiftOnlyUptoSaid : Prop := liftOnlyUptoRow.holds Try.pinned (OpenSpec.upto liftOnlySpec)

/-- 'gherkinlaw06.LiftFactors', WHERE WHAT IT READS IS OF BULK AT MOST 1048576: true; the input reads as it did. -/
def liftFactorsUptoRow : OpenClaim := { program := "ytjlaclbgfidiiaa", sum := "f70c4c766fe5caf888882229720d987e51d69fe8b4be638f839444308517c472", func := "gherkin/gherkinlaw06.LiftFactors", spec := "liftFactors", unfollowed := true, recurses := true, apart := false, narrowed := true }
def LiftFactorsUptoSaid : Prop := liftFactorsUptoRow.holds Try.pinned (OpenSpec.upto liftFactorsSpec)

/-- 'gherkinlaw06.LiftPure', WHERE WHAT IT READS IS OF BULK AT MOST 1048576: true; the input reads as it did. -/
def liftPureUptoRow : OpenClaim := { program := "ytjlaclbgfidiiaa", sum := "f70c4c766fe5caf888882229720d987e51d69fe8b4be638f839444308517c472", func := "gherkin/gherkinlaw06.LiftPure", spec := "liftPure", unfollowed := true, recurses := true, apart := false, narrowed := true }
def LiftPureUptoSaid : Prop := liftPureUptoRow.holds Try.pinned (OpenSpec.upto liftPureSpec)

/-- 'gherkinlaw06.LiftWhole', WHERE WHAT IT READS IS OF BULK AT MOST 1048576: true; the input reads as it did. -/
def liftWholeUptoRow : OpenClaim := { program := "ytjlaclbgfidiiaa", sum := "f70c4c766fe5caf888882229720d987e51d69fe8b4be638f839444308517c472", func := "gherkin/gherkinlaw06.LiftWhole", spec := "liftWhole", unfollowed := true, recurses := true, apart := false, narrowed := true }
def LiftWholeUptoSaid : Prop := liftWholeUptoRow.holds Try.pinned (OpenSpec.upto liftWholeSpec)

/-- 'gherkinlaw06.LiftPlaces', WHERE WHAT IT READS IS OF BULK AT MOST 1048576: true; the input reads as it did. -/
def liftPlacesUptoRow : OpenClaim := { program := "ytjlaclbgfidiiaa", sum := "f70c4c766fe5caf888882229720d987e51d69fe8b4be638f839444308517c472", func := "gherkin/gherkinlaw06.LiftPlaces", spec := "liftPlaces", unfollowed := true, recurses := true, apart := false, narrowed := true }
def LiftPlacesUptoSaid : Prop := liftPlacesUptoRow.holds Try.pinned (OpenSpec.upto liftPlacesSpec)

/-- 'gherkinlaw06.LiftLetters', WHERE WHAT IT READS IS OF BULK AT MOST 1048576: true; the input reads as it did. -/
def liftLettersUptoRow : OpenClaim := { program := "ytjlaclbgfidiiaa", sum := "f70c4c766fe5caf888882229720d987e51d69fe8b4be638f839444308517c472", func := "gherkin/gherkinlaw06.LiftLetters", spec := "liftLetters", unfollowed := true, recurses := true, apart := false, narrowed := true }
def LiftLettersUptoSaid : Prop := liftLettersUptoRow.holds Try.pinned (OpenSpec.upto liftLettersSpec)

/-- 'gherkinlaw06.LiftSquares', WHERE WHAT IT READS IS OF BULK AT MOST 1048576: true; the input reads as it did. -/
def liftSquaresUptoRow : OpenClaim := { program := "ytjlaclbgfidiiaa", sum := "f70c4c766fe5caf888882229720d987e51d69fe8b4be638f839444308517c472", func := "gherkin/gherkinlaw06.LiftSquares", spec := "liftSquares", unfollowed := true, recurses := true, apart := false, narrowed := true }
def LiftSquaresUptoSaid : Prop := liftSquaresUptoRow.holds Try.pinned (OpenSpec.upto liftSquaresSpec)

/-- 'gherkintop.TopOrder', WHERE WHAT IT READS IS OF BULK AT MOST 1048576: true; the input reads as it did. -/
def topOrderUptoRow : OpenClaim := { program := "ytjlaclbgfidiiaa", sum := "f70c4c766fe5caf888882229720d987e51d69fe8b4be638f839444308517c472", func := "gherkin/gherkintop.TopOrder", spec := "topOrder", unfollowed := true, recurses := true, apart := false, narrowed := true }
def TopOrderUptoSaid : Prop := topOrderUptoRow.holds Try.pinned (OpenSpec.upto topOrderSpec)

end Rows
end Go.Proofs.Ytjlaclbgfidiiaa
