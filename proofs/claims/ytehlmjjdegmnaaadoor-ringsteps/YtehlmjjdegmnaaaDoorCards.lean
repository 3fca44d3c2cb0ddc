/-
  DERIVED. GIVEN WITH THE SEED: THE CARDS: each row of YtehlmjjdegmnaaaDoorRows.lean that lists a variable, with what it lists TIED to the program's text (the seventh form; the later family's looks); each row that meets fmt, with fmt's text TOLD by the authors' own Lean function (tested against real Go, not proved from fmt's source: count such statements apart). THE CARD IS WHAT COUNTS. Prove the row's statement (the work); the ties are given (YtehlmjjdegmnaaaDoorTie.lean); close each card by the builder's one call (the guide's Derived/Test/ToyasCard.lean, 'card_holds'). Laid BY PROGRAM, IN A SANDBOX (cutbox-door.mjs). By AI agents, Wed Nov 11 2026. No macro, syntax, notation, axiom, sorry.
-/
import Derived.Test.YtehlmjjdegmnaaaDoorRows
import GoSem.ClaimSeven
namespace Go.Proofs.YtehlmjjdegmnaaaDoor
namespace Rows

/-- THE TIED CARD OF 'riddlelaw13.RingSteps'. -/
def ringStepsCard : Claim7 := { stood := { row := ringStepsRow, standIns := [], harness := (true, "e3e270658764b50155ceb08af9a12ea4a5ed7b0c75a37ef082371a65db399005"), looks := false }, kinds := [], alts := [], laidByText := true, laidKinds := [.data], laidTests := true, laidLooks := .later }
def RingStepsCardSaid : Prop := Claim7.holds Tryd.pinned (.plain (OpenSpec.ofChange ringStepsSpec)) ringStepsCard

/-- THE SECOND FORM's CARD OF 'riddlelaw13.RingSteps'. -/
def ringStepsUptoCard : Claim7 := { stood := { row := ringStepsUptoRow, standIns := [], harness := (true, "e3e270658764b50155ceb08af9a12ea4a5ed7b0c75a37ef082371a65db399005"), looks := false }, kinds := [], alts := [], laidByText := true, laidKinds := [.data], laidTests := true, laidLooks := .later }
def RingStepsUptoCardSaid : Prop := Claim7.holds Tryd.pinned (.plain (OpenSpec.upto ringStepsSpec)) ringStepsUptoCard
end Rows
end Go.Proofs.YtehlmjjdegmnaaaDoor
