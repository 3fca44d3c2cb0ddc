/-
  DERIVED. GIVEN WITH THE SEED: THE CARDS: each row of YtiiecppkabdkgabDoorRows.lean that lists a variable, with what it lists TIED to the program's text (the seventh form; the later family's looks); each row that meets fmt, with fmt's text TOLD by the authors' own Lean function (tested against real Go, not proved from fmt's source: count such statements apart). THE CARD IS WHAT COUNTS. Prove the row's statement (the work); the ties are given (YtiiecppkabdkgabDoorTie.lean); close each card by the builder's one call (the guide's Derived/Test/ToyasCard.lean, 'card_holds'). Laid BY PROGRAM, IN A SANDBOX (cutbox-door.mjs). By AI agents, Wed Nov 11 2026. No macro, syntax, notation, axiom, sorry.
-/
import Derived.Test.YtiiecppkabdkgabDoorRows
import GoSem.ClaimSeven
namespace Go.Proofs.YtiiecppkabdkgabDoor
namespace Rows

/-- THE TIED CARD OF 'riddlelaw08.MeaningWide'. -/
def meaningWideCard : Claim7 := { stood := { row := meaningWideRow, standIns := [], harness := (true, "3c8a96b32a9c3aa59a8d5fbcada784dce8efcdab4c6e445ed62e3bf63bb0a5a1"), looks := false }, kinds := [], alts := [], laidByText := true, laidKinds := [.data], laidTests := true, laidLooks := .later }
def MeaningWideCardSaid : Prop := Claim7.holds Tryd.pinned (.plain (OpenSpec.ofChange meaningWideSpec)) meaningWideCard

/-- THE SECOND FORM's CARD OF 'riddlelaw08.MeaningWide'. -/
def meaningWideUptoCard : Claim7 := { stood := { row := meaningWideUptoRow, standIns := [], harness := (true, "3c8a96b32a9c3aa59a8d5fbcada784dce8efcdab4c6e445ed62e3bf63bb0a5a1"), looks := false }, kinds := [], alts := [], laidByText := true, laidKinds := [.data], laidTests := true, laidLooks := .later }
def MeaningWideUptoCardSaid : Prop := Claim7.holds Tryd.pinned (.plain (OpenSpec.upto meaningWideSpec)) meaningWideUptoCard
end Rows
end Go.Proofs.YtiiecppkabdkgabDoor
