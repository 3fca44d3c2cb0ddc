/-
  DERIVED. GIVEN WITH THE SEED: THE CARDS: each row of YtiiecppkabdkgaaDoorRows.lean that lists a variable, with what it lists TIED to the program's text (the seventh form; the later family's looks); each row that meets fmt, with fmt's text TOLD by the authors' own Lean function (tested against real Go, not proved from fmt's source: count such statements apart). THE CARD IS WHAT COUNTS. Prove the row's statement (the work); the ties are given (YtiiecppkabdkgaaDoorTie.lean); close each card by the builder's one call (the guide's Derived/Test/ToyasCard.lean, 'card_holds'). Laid BY PROGRAM, IN A SANDBOX (cutbox-door.mjs). By AI agents, Wed Nov 11 2026. No macro, syntax, notation, axiom, sorry.
-/
import Derived.Test.YtiiecppkabdkgaaDoorRows
import GoSem.ClaimSeven
namespace Go.Proofs.YtiiecppkabdkgaaDoor
namespace Rows

/-- THE TIED CARD OF 'riddlelaw08.MeaningSpans'. -/
def meaningSpansCard : Claim7 := { stood := { row := meaningSpansRow, standIns := [], harness := (true, "52ea648e67c9daa7c419e40f33d8b818b68a13c3c2548a4e61686314237a5856"), looks := false }, kinds := [], alts := [], laidByText := true, laidKinds := [.data], laidTests := true, laidLooks := .later }
def MeaningSpansCardSaid : Prop := Claim7.holds Tryd.pinned (.plain (OpenSpec.ofChange meaningSpansSpec)) meaningSpansCard

/-- THE TIED CARD OF 'riddlelaw08.MeaningMatch'. -/
def meaningMatchCard : Claim7 := { stood := { row := meaningMatchRow, standIns := [], harness := (true, "52ea648e67c9daa7c419e40f33d8b818b68a13c3c2548a4e61686314237a5856"), looks := false }, kinds := [], alts := [], laidByText := true, laidKinds := [.data], laidTests := true, laidLooks := .later }
def MeaningMatchCardSaid : Prop := Claim7.holds Tryd.pinned (.plain (OpenSpec.ofChange meaningMatchSpec)) meaningMatchCard

/-- THE TIED CARD OF 'riddlelaw08.MeaningAlone'. -/
def meaningAloneCard : Claim7 := { stood := { row := meaningAloneRow, standIns := [], harness := (true, "52ea648e67c9daa7c419e40f33d8b818b68a13c3c2548a4e61686314237a5856"), looks := false }, kinds := [], alts := [], laidByText := true, laidKinds := [.data], laidTests := true, laidLooks := .later }
def MeaningAloneCardSaid : Prop := Claim7.holds Tryd.pinned (.plain (OpenSpec.ofChange meaningAloneSpec)) meaningAloneCard

/-- THE TIED CARD OF 'riddlelaw08.MeaningAlgebra'. -/
def meaningAlgebraCard : Claim7 := { stood := { row := meaningAlgebraRow, standIns := [], harness := (true, "52ea648e67c9daa7c419e40f33d8b818b68a13c3c2548a4e61686314237a5856"), looks := false }, kinds := [], alts := [], laidByText := true, laidKinds := [.data], laidTests := true, laidLooks := .later }
def MeaningAlgebraCardSaid : Prop := Claim7.holds Tryd.pinned (.plain (OpenSpec.ofChange meaningAlgebraSpec)) meaningAlgebraCard

/-- THE TIED CARD OF 'riddlelaw08.MeaningRepeats'. -/
def meaningRepeatsCard : Claim7 := { stood := { row := meaningRepeatsRow, standIns := [], harness := (true, "52ea648e67c9daa7c419e40f33d8b818b68a13c3c2548a4e61686314237a5856"), looks := false }, kinds := [], alts := [], laidByText := true, laidKinds := [.data], laidTests := true, laidLooks := .later }
def MeaningRepeatsCardSaid : Prop := Claim7.holds Tryd.pinned (.plain (OpenSpec.ofChange meaningRepeatsSpec)) meaningRepeatsCard

/-- THE TIED CARD OF 'riddlelaw08.MeaningTurned'. -/
def meaningTurnedCard : Claim7 := { stood := { row := meaningTurnedRow, standIns := [], harness := (true, "52ea648e67c9daa7c419e40f33d8b818b68a13c3c2548a4e61686314237a5856"), looks := false }, kinds := [], alts := [], laidByText := true, laidKinds := [.data], laidTests := true, laidLooks := .later }
def MeaningTurnedCardSaid : Prop := Claim7.holds Tryd.pinned (.plain (OpenSpec.ofChange meaningTurnedSpec)) meaningTurnedCard

/-- THE SECOND FORM's CARD OF 'riddlelaw08.MeaningSpans'. -/
def meaningSpansUptoCard : Claim7 := { stood := { row := meaningSpansUptoRow, standIns := [], harness := (true, "52ea648e67c9daa7c419e40f33d8b818b68a13c3c2548a4e61686314237a5856"), looks := false }, kinds := [], alts := [], laidByText := true, laidKinds := [.data], laidTests := true, laidLooks := .later }
def MeaningSpansUptoCardSaid : Prop := Claim7.holds Tryd.pinned (.plain (OpenSpec.upto meaningSpansSpec)) meaningSpansUptoCard

/-- THE SECOND FORM's CARD OF 'riddlelaw08.MeaningMatch'. -/
def meaningMatchUptoCard : Claim7 := { stood := { row := meaningMatchUptoRow, standIns := [], harness := (true, "52ea648e67c9daa7c419e40f33d8b818b68a13c3c2548a4e61686314237a5856"), looks := false }, kinds := [], alts := [], laidByText := true, laidKinds := [.data], laidTests := true, laidLooks := .later }
def MeaningMatchUptoCardSaid : Prop := Claim7.holds Tryd.pinned (.plain (OpenSpec.upto meaningMatchSpec)) meaningMatchUptoCard

/-- THE SECOND FORM's CARD OF 'riddlelaw08.MeaningAlone'. -/
def meaningAloneUptoCard : Claim7 := { stood := { row := meaningAloneUptoRow, standIns := [], harness := (true, "52ea648e67c9daa7c419e40f33d8b818b68a13c3c2548a4e61686314237a5856"), looks := false }, kinds := [], alts := [], laidByText := true, laidKinds := [.data], laidTests := true, laidLooks := .later }
def MeaningAloneUptoCardSaid : Prop := Claim7.holds Tryd.pinned (.plain (OpenSpec.upto meaningAloneSpec)) meaningAloneUptoCard

/-- THE SECOND FORM's CARD OF 'riddlelaw08.MeaningAlgebra'. -/
def meaningAlgebraUptoCard : Claim7 := { stood := { row := meaningAlgebraUptoRow, standIns := [], harness := (true, "52ea648e67c9daa7c419e40f33d8b818b68a13c3c2548a4e61686314237a5856"), looks := false }, kinds := [], alts := [], laidByText := true, laidKinds := [.data], laidTests := true, laidLooks := .later }
def MeaningAlgebraUptoCardSaid : Prop := Claim7.holds Tryd.pinned (.plain (OpenSpec.upto meaningAlgebraSpec)) meaningAlgebraUptoCard

/-- THE SECOND FORM's CARD OF 'riddlelaw08.MeaningRepeats'. -/
def meaningRepeatsUptoCard : Claim7 := { stood := { row := meaningRepeatsUptoRow, standIns := [], harness := (true, "52ea648e67c9daa7c419e40f33d8b818b68a13c3c2548a4e61686314237a5856"), looks := false }, kinds := [], alts := [], laidByText := true, laidKinds := [.data], laidTests := true, laidLooks := .later }
def MeaningRepeatsUptoCardSaid : Prop := Claim7.holds Tryd.pinned (.plain (OpenSpec.upto meaningRepeatsSpec)) meaningRepeatsUptoCard

/-- THE SECOND FORM's CARD OF 'riddlelaw08.MeaningTurned'. -/
def meaningTurnedUptoCard : Claim7 := { stood := { row := meaningTurnedUptoRow, standIns := [], harness := (true, "52ea648e67c9daa7c419e40f33d8b818b68a13c3c2548a4e61686314237a5856"), looks := false }, kinds := [], alts := [], laidByText := true, laidKinds := [.data], laidTests := true, laidLooks := .later }
def MeaningTurnedUptoCardSaid : Prop := Claim7.holds Tryd.pinned (.plain (OpenSpec.upto meaningTurnedSpec)) meaningTurnedUptoCard
end Rows
end Go.Proofs.YtiiecppkabdkgaaDoor
