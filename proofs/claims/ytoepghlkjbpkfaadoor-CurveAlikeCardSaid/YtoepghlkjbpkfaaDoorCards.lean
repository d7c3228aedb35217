/-
  DERIVED. GIVEN WITH THE SEED: THE CARDS: each row of YtoepghlkjbpkfaaDoorRows.lean that lists a variable, with what it lists TIED to the program's text (the seventh form; the later family's looks); each row that meets fmt, with fmt's text TOLD by the authors' own Lean function (tested against real Go, not proved from fmt's source: count such statements apart). THE CARD IS WHAT COUNTS. Prove the row's statement (the work); the ties are given (YtoepghlkjbpkfaaDoorTie.lean); close each card by the builder's one call (the guide's Derived/Test/ToyasCard.lean, 'card_holds'). Laid BY PROGRAM, IN A SANDBOX (cutbox-door.mjs). By AI agents, Wed Nov 11 2026. No macro, syntax, notation, axiom, sorry.
-/
import Derived.Test.YtoepghlkjbpkfaaDoorRows
import GoSem.ClaimSeven
namespace Go.Proofs.YtoepghlkjbpkfaaDoor
namespace Rows

/-- THE TIED CARD OF 'gherkinlaw09.CurvePoints'. -/
def curvePointsCard : Claim7 := { stood := { row := curvePointsRow, standIns := [], harness := (true, "1cc802876c0475e4b469a965a0f05559cf31367daef6ca5b9be2c92c0edcd204"), looks := false }, kinds := [], alts := [], laidByText := true, laidKinds := [.data], laidTests := true, laidLooks := .later }
def CurvePointsCardSaid : Prop := Claim7.holds Tryd.pinned (.plain (OpenSpec.ofChange curvePointsSpec)) curvePointsCard

/-- THE TIED CARD OF 'gherkinlaw09.CurveSums'. -/
def curveSumsCard : Claim7 := { stood := { row := curveSumsRow, standIns := [], harness := (true, "1cc802876c0475e4b469a965a0f05559cf31367daef6ca5b9be2c92c0edcd204"), looks := false }, kinds := [], alts := [], laidByText := true, laidKinds := [.data], laidTests := true, laidLooks := .later }
def CurveSumsCardSaid : Prop := Claim7.holds Tryd.pinned (.plain (OpenSpec.ofChange curveSumsSpec)) curveSumsCard

/-- THE TIED CARD OF 'gherkinlaw09.CurveShapes'. -/
def curveShapesCard : Claim7 := { stood := { row := curveShapesRow, standIns := [], harness := (true, "1cc802876c0475e4b469a965a0f05559cf31367daef6ca5b9be2c92c0edcd204"), looks := false }, kinds := [], alts := [], laidByText := true, laidKinds := [.data], laidTests := true, laidLooks := .later }
def CurveShapesCardSaid : Prop := Claim7.holds Tryd.pinned (.plain (OpenSpec.ofChange curveShapesSpec)) curveShapesCard

/-- THE TIED CARD OF 'gherkinlaw09.CurveLogs'. -/
def curveLogsCard : Claim7 := { stood := { row := curveLogsRow, standIns := [], harness := (true, "1cc802876c0475e4b469a965a0f05559cf31367daef6ca5b9be2c92c0edcd204"), looks := false }, kinds := [], alts := [], laidByText := true, laidKinds := [.data], laidTests := true, laidLooks := .later }
def CurveLogsCardSaid : Prop := Claim7.holds Tryd.pinned (.plain (OpenSpec.ofChange curveLogsSpec)) curveLogsCard

/-- THE TIED CARD OF 'gherkinlaw09.CurveTwists'. -/
def curveTwistsCard : Claim7 := { stood := { row := curveTwistsRow, standIns := [], harness := (true, "1cc802876c0475e4b469a965a0f05559cf31367daef6ca5b9be2c92c0edcd204"), looks := false }, kinds := [], alts := [], laidByText := true, laidKinds := [.data], laidTests := true, laidLooks := .later }
def CurveTwistsCardSaid : Prop := Claim7.holds Tryd.pinned (.plain (OpenSpec.ofChange curveTwistsSpec)) curveTwistsCard

/-- THE TIED CARD OF 'gherkinlaw09.CurveCounts'. -/
def curveCountsCard : Claim7 := { stood := { row := curveCountsRow, standIns := [], harness := (true, "1cc802876c0475e4b469a965a0f05559cf31367daef6ca5b9be2c92c0edcd204"), looks := false }, kinds := [], alts := [], laidByText := true, laidKinds := [.data], laidTests := true, laidLooks := .later }
def CurveCountsCardSaid : Prop := Claim7.holds Tryd.pinned (.plain (OpenSpec.ofChange curveCountsSpec)) curveCountsCard

/-- THE TIED CARD OF 'gherkinlaw09.CurveSeals'. -/
def curveSealsCard : Claim7 := { stood := { row := curveSealsRow, standIns := [], harness := (true, "1cc802876c0475e4b469a965a0f05559cf31367daef6ca5b9be2c92c0edcd204"), looks := false }, kinds := [], alts := [], laidByText := true, laidKinds := [.data], laidTests := true, laidLooks := .later }
def CurveSealsCardSaid : Prop := Claim7.holds Tryd.pinned (.plain (OpenSpec.ofChange curveSealsSpec)) curveSealsCard

/-- THE TIED CARD OF 'gherkinlaw09.CurveGroup'. -/
def curveGroupCard : Claim7 := { stood := { row := curveGroupRow, standIns := [], harness := (true, "1cc802876c0475e4b469a965a0f05559cf31367daef6ca5b9be2c92c0edcd204"), looks := false }, kinds := [], alts := [], laidByText := true, laidKinds := [.data], laidTests := true, laidLooks := .later }
def CurveGroupCardSaid : Prop := Claim7.holds Tryd.pinned (.plain (OpenSpec.ofChange curveGroupSpec)) curveGroupCard

/-- THE TIED CARD OF 'gherkinlaw09.CurveHasse'. -/
def curveHasseCard : Claim7 := { stood := { row := curveHasseRow, standIns := [], harness := (true, "1cc802876c0475e4b469a965a0f05559cf31367daef6ca5b9be2c92c0edcd204"), looks := false }, kinds := [], alts := [], laidByText := true, laidKinds := [.data], laidTests := true, laidLooks := .later }
def CurveHasseCardSaid : Prop := Claim7.holds Tryd.pinned (.plain (OpenSpec.ofChange curveHasseSpec)) curveHasseCard

/-- THE TIED CARD OF 'gherkinlaw09.CurveAlike'. -/
def curveAlikeCard : Claim7 := { stood := { row := curveAlikeRow, standIns := [], harness := (true, "1cc802876c0475e4b469a965a0f05559cf31367daef6ca5b9be2c92c0edcd204"), looks := false }, kinds := [], alts := [], laidByText := true, laidKinds := [.data], laidTests := true, laidLooks := .later }
def CurveAlikeCardSaid : Prop := Claim7.holds Tryd.pinned (.plain (OpenSpec.ofChange curveAlikeSpec)) curveAlikeCard

/-- THE TIED CARD OF 'gherkinlaw09.CurveTorsion'. -/
def curveTorsionCard : Claim7 := { stood := { row := curveTorsionRow, standIns := [], harness := (true, "1cc802876c0475e4b469a965a0f05559cf31367daef6ca5b9be2c92c0edcd204"), looks := false }, kinds := [], alts := [], laidByText := true, laidKinds := [.data], laidTests := true, laidLooks := .later }
def CurveTorsionCardSaid : Prop := Claim7.holds Tryd.pinned (.plain (OpenSpec.ofChange curveTorsionSpec)) curveTorsionCard

/-- THE TIED CARD OF 'gherkinlaw09.CurveExponents'. -/
def curveExponentsCard : Claim7 := { stood := { row := curveExponentsRow, standIns := [], harness := (true, "1cc802876c0475e4b469a965a0f05559cf31367daef6ca5b9be2c92c0edcd204"), looks := false }, kinds := [], alts := [], laidByText := true, laidKinds := [.data], laidTests := true, laidLooks := .later }
def CurveExponentsCardSaid : Prop := Claim7.holds Tryd.pinned (.plain (OpenSpec.ofChange curveExponentsSpec)) curveExponentsCard

/-- THE TIED CARD OF 'gherkinlaw09.CurveSealed'. -/
def curveSealedCard : Claim7 := { stood := { row := curveSealedRow, standIns := [], harness := (true, "1cc802876c0475e4b469a965a0f05559cf31367daef6ca5b9be2c92c0edcd204"), looks := false }, kinds := [], alts := [], laidByText := true, laidKinds := [.data], laidTests := true, laidLooks := .later }
def CurveSealedCardSaid : Prop := Claim7.holds Tryd.pinned (.plain (OpenSpec.ofChange curveSealedSpec)) curveSealedCard

/-- THE TIED CARD OF 'gherkinlaw09.CurveClasses'. -/
def curveClassesCard : Claim7 := { stood := { row := curveClassesRow, standIns := [], harness := (true, "1cc802876c0475e4b469a965a0f05559cf31367daef6ca5b9be2c92c0edcd204"), looks := false }, kinds := [], alts := [], laidByText := true, laidKinds := [.data], laidTests := true, laidLooks := .later }
def CurveClassesCardSaid : Prop := Claim7.holds Tryd.pinned (.plain (OpenSpec.ofChange curveClassesSpec)) curveClassesCard

/-- THE SECOND FORM's CARD OF 'gherkinlaw09.CurvePoints'. -/
def curvePointsUptoCard : Claim7 := { stood := { row := curvePointsUptoRow, standIns := [], harness := (true, "1cc802876c0475e4b469a965a0f05559cf31367daef6ca5b9be2c92c0edcd204"), looks := false }, kinds := [], alts := [], laidByText := true, laidKinds := [.data], laidTests := true, laidLooks := .later }
def CurvePointsUptoCardSaid : Prop := Claim7.holds Tryd.pinned (.plain (OpenSpec.upto curvePointsSpec)) curvePointsUptoCard

/-- THE SECOND FORM's CARD OF 'gherkinlaw09.CurveSums'. -/
def curveSumsUptoCard : Claim7 := { stood := { row := curveSumsUptoRow, standIns := [], harness := (true, "1cc802876c0475e4b469a965a0f05559cf31367daef6ca5b9be2c92c0edcd204"), looks := false }, kinds := [], alts := [], laidByText := true, laidKinds := [.data], laidTests := true, laidLooks := .later }
def CurveSumsUptoCardSaid : Prop := Claim7.holds Tryd.pinned (.plain (OpenSpec.upto curveSumsSpec)) curveSumsUptoCard

/-- THE SECOND FORM's CARD OF 'gherkinlaw09.CurveShapes'. -/
def curveShapesUptoCard : Claim7 := { stood := { row := curveShapesUptoRow, standIns := [], harness := (true, "1cc802876c0475e4b469a965a0f05559cf31367daef6ca5b9be2c92c0edcd204"), looks := false }, kinds := [], alts := [], laidByText := true, laidKinds := [.data], laidTests := true, laidLooks := .later }
def CurveShapesUptoCardSaid : Prop := Claim7.holds Tryd.pinned (.plain (OpenSpec.upto curveShapesSpec)) curveShapesUptoCard

/-- THE SECOND FORM's CARD OF 'gherkinlaw09.CurveLogs'. -/
def curveLogsUptoCard : Claim7 := { stood := { row := curveLogsUptoRow, standIns := [], harness := (true, "1cc802876c0475e4b469a965a0f05559cf31367daef6ca5b9be2c92c0edcd204"), looks := false }, kinds := [], alts := [], laidByText := true, laidKinds := [.data], laidTests := true, laidLooks := .later }
def CurveLogsUptoCardSaid : Prop := Claim7.holds Tryd.pinned (.plain (OpenSpec.upto curveLogsSpec)) curveLogsUptoCard

/-- THE SECOND FORM's CARD OF 'gherkinlaw09.CurveTwists'. -/
def curveTwistsUptoCard : Claim7 := { stood := { row := curveTwistsUptoRow, standIns := [], harness := (true, "1cc802876c0475e4b469a965a0f05559cf31367daef6ca5b9be2c92c0edcd204"), looks := false }, kinds := [], alts := [], laidByText := true, laidKinds := [.data], laidTests := true, laidLooks := .later }
def CurveTwistsUptoCardSaid : Prop := Claim7.holds Tryd.pinned (.plain (OpenSpec.upto curveTwistsSpec)) curveTwistsUptoCard

/-- THE SECOND FORM's CARD OF 'gherkinlaw09.CurveCounts'. -/
def curveCountsUptoCard : Claim7 := { stood := { row := curveCountsUptoRow, standIns := [], harness := (true, "1cc802876c0475e4b469a965a0f05559cf31367daef6ca5b9be2c92c0edcd204"), looks := false }, kinds := [], alts := [], laidByText := true, laidKinds := [.data], laidTests := true, laidLooks := .later }
def CurveCountsUptoCardSaid : Prop := Claim7.holds Tryd.pinned (.plain (OpenSpec.upto curveCountsSpec)) curveCountsUptoCard

/-- THE SECOND FORM's CARD OF 'gherkinlaw09.CurveSeals'. -/
def curveSealsUptoCard : Claim7 := { stood := { row := curveSealsUptoRow, standIns := [], harness := (true, "1cc802876c0475e4b469a965a0f05559cf31367daef6ca5b9be2c92c0edcd204"), looks := false }, kinds := [], alts := [], laidByText := true, laidKinds := [.data], laidTests := true, laidLooks := .later }
def CurveSealsUptoCardSaid : Prop := Claim7.holds Tryd.pinned (.plain (OpenSpec.upto curveSealsSpec)) curveSealsUptoCard

/-- THE SECOND FORM's CARD OF 'gherkinlaw09.CurveGroup'. -/
def curveGroupUptoCard : Claim7 := { stood := { row := curveGroupUptoRow, standIns := [], harness := (true, "1cc802876c0475e4b469a965a0f05559cf31367daef6ca5b9be2c92c0edcd204"), looks := false }, kinds := [], alts := [], laidByText := true, laidKinds := [.data], laidTests := true, laidLooks := .later }
def CurveGroupUptoCardSaid : Prop := Claim7.holds Tryd.pinned (.plain (OpenSpec.upto curveGroupSpec)) curveGroupUptoCard

/-- THE SECOND FORM's CARD OF 'gherkinlaw09.CurveHasse'. -/
def curveHasseUptoCard : Claim7 := { stood := { row := curveHasseUptoRow, standIns := [], harness := (true, "1cc802876c0475e4b469a965a0f05559cf31367daef6ca5b9be2c92c0edcd204"), looks := false }, kinds := [], alts := [], laidByText := true, laidKinds := [.data], laidTests := true, laidLooks := .later }
def CurveHasseUptoCardSaid : Prop := Claim7.holds Tryd.pinned (.plain (OpenSpec.upto curveHasseSpec)) curveHasseUptoCard

/-- THE SECOND FORM's CARD OF 'gherkinlaw09.CurveAlike'. -/
def curveAlikeUptoCard : Claim7 := { stood := { row := curveAlikeUptoRow, standIns := [], harness := (true, "1cc802876c0475e4b469a965a0f05559cf31367daef6ca5b9be2c92c0edcd204"), looks := false }, kinds := [], alts := [], laidByText := true, laidKinds := [.data], laidTests := true, laidLooks := .later }
def CurveAlikeUptoCardSaid : Prop := Claim7.holds Tryd.pinned (.plain (OpenSpec.upto curveAlikeSpec)) curveAlikeUptoCard

/-- THE SECOND FORM's CARD OF 'gherkinlaw09.CurveTorsion'. -/
def curveTorsionUptoCard : Claim7 := { stood := { row := curveTorsionUptoRow, standIns := [], harness := (true, "1cc802876c0475e4b469a965a0f05559cf31367daef6ca5b9be2c92c0edcd204"), looks := false }, kinds := [], alts := [], laidByText := true, laidKinds := [.data], laidTests := true, laidLooks := .later }
def CurveTorsionUptoCardSaid : Prop := Claim7.holds Tryd.pinned (.plain (OpenSpec.upto curveTorsionSpec)) curveTorsionUptoCard

/-- THE SECOND FORM's CARD OF 'gherkinlaw09.CurveExponents'. -/
def curveExponentsUptoCard : Claim7 := { stood := { row := curveExponentsUptoRow, standIns := [], harness := (true, "1cc802876c0475e4b469a965a0f05559cf31367daef6ca5b9be2c92c0edcd204"), looks := false }, kinds := [], alts := [], laidByText := true, laidKinds := [.data], laidTests := true, laidLooks := .later }
def CurveExponentsUptoCardSaid : Prop := Claim7.holds Tryd.pinned (.plain (OpenSpec.upto curveExponentsSpec)) curveExponentsUptoCard

/-- THE SECOND FORM's CARD OF 'gherkinlaw09.CurveSealed'. -/
def curveSealedUptoCard : Claim7 := { stood := { row := curveSealedUptoRow, standIns := [], harness := (true, "1cc802876c0475e4b469a965a0f05559cf31367daef6ca5b9be2c92c0edcd204"), looks := false }, kinds := [], alts := [], laidByText := true, laidKinds := [.data], laidTests := true, laidLooks := .later }
def CurveSealedUptoCardSaid : Prop := Claim7.holds Tryd.pinned (.plain (OpenSpec.upto curveSealedSpec)) curveSealedUptoCard

/-- THE SECOND FORM's CARD OF 'gherkinlaw09.CurveClasses'. -/
def curveClassesUptoCard : Claim7 := { stood := { row := curveClassesUptoRow, standIns := [], harness := (true, "1cc802876c0475e4b469a965a0f05559cf31367daef6ca5b9be2c92c0edcd204"), looks := false }, kinds := [], alts := [], laidByText := true, laidKinds := [.data], laidTests := true, laidLooks := .later }
def CurveClassesUptoCardSaid : Prop := Claim7.holds Tryd.pinned (.plain (OpenSpec.upto curveClassesSpec)) curveClassesUptoCard
end Rows
end Go.Proofs.YtoepghlkjbpkfaaDoor
