/-
  DERIVED. GIVEN WITH THE SEED: THE CARDS: each row of YthbmfnibgjlkhaaDoorRows.lean that lists a variable, with what it lists TIED to the program's text (the seventh form; the later family's looks); each row that meets fmt, with fmt's text TOLD by the authors' own Lean function (tested against real Go, not proved from fmt's source: count such statements apart). THE CARD IS WHAT COUNTS. Prove the row's statement (the work); the ties are given (YthbmfnibgjlkhaaDoorTie.lean); close each card by the builder's one call (the guide's Derived/Test/ToyasCard.lean, 'card_holds'). Laid BY PROGRAM, IN A SANDBOX (cutbox-door.mjs). By AI agents, Wed Nov 11 2026. No macro, syntax, notation, axiom, sorry.
-/
import Derived.Test.YthbmfnibgjlkhaaDoorRows
import GoSem.ClaimSeven
namespace Go.Proofs.YthbmfnibgjlkhaaDoor
namespace Rows

/-- THE TIED CARD OF 'riddlelaw15.LiteralLetters'. -/
def literalLettersCard : Claim7 := { stood := { row := literalLettersRow, standIns := [], harness := (true, "e8bba564bd857c8bf1783885c2bb4ea59e361581994667603a98a9b8a45250ce"), looks := false }, kinds := [], alts := [], laidByText := true, laidKinds := [.data], laidTests := true, laidLooks := .later }
def LiteralLettersCardSaid : Prop := Claim7.holds Tryd.pinned (.plain (OpenSpec.ofChange literalLettersSpec)) literalLettersCard

/-- THE TIED CARD OF 'riddlelaw15.LiteralPlaces'. -/
def literalPlacesCard : Claim7 := { stood := { row := literalPlacesRow, standIns := [], harness := (true, "e8bba564bd857c8bf1783885c2bb4ea59e361581994667603a98a9b8a45250ce"), looks := false }, kinds := [], alts := [], laidByText := true, laidKinds := [.data], laidTests := true, laidLooks := .later }
def LiteralPlacesCardSaid : Prop := Claim7.holds Tryd.pinned (.plain (OpenSpec.ofChange literalPlacesSpec)) literalPlacesCard

/-- THE TIED CARD OF 'riddlelaw15.LiteralRuns'. -/
def literalRunsCard : Claim7 := { stood := { row := literalRunsRow, standIns := [], harness := (true, "e8bba564bd857c8bf1783885c2bb4ea59e361581994667603a98a9b8a45250ce"), looks := false }, kinds := [], alts := [], laidByText := true, laidKinds := [.data], laidTests := true, laidLooks := .later }
def LiteralRunsCardSaid : Prop := Claim7.holds Tryd.pinned (.plain (OpenSpec.ofChange literalRunsSpec)) literalRunsCard

/-- THE TIED CARD OF 'riddlelaw15.LiteralNeeds'. -/
def literalNeedsCard : Claim7 := { stood := { row := literalNeedsRow, standIns := [], harness := (true, "e8bba564bd857c8bf1783885c2bb4ea59e361581994667603a98a9b8a45250ce"), looks := false }, kinds := [], alts := [], laidByText := true, laidKinds := [.data], laidTests := true, laidLooks := .later }
def LiteralNeedsCardSaid : Prop := Claim7.holds Tryd.pinned (.plain (OpenSpec.ofChange literalNeedsSpec)) literalNeedsCard

/-- THE SECOND FORM's CARD OF 'riddlelaw15.LiteralLetters'. -/
def literalLettersUptoCard : Claim7 := { stood := { row := literalLettersUptoRow, standIns := [], harness := (true, "e8bba564bd857c8bf1783885c2bb4ea59e361581994667603a98a9b8a45250ce"), looks := false }, kinds := [], alts := [], laidByText := true, laidKinds := [.data], laidTests := true, laidLooks := .later }
def LiteralLettersUptoCardSaid : Prop := Claim7.holds Tryd.pinned (.plain (OpenSpec.upto literalLettersSpec)) literalLettersUptoCard

/-- THE SECOND FORM's CARD OF 'riddlelaw15.LiteralPlaces'. -/
def literalPlacesUptoCard : Claim7 := { stood := { row := literalPlacesUptoRow, standIns := [], harness := (true, "e8bba564bd857c8bf1783885c2bb4ea59e361581994667603a98a9b8a45250ce"), looks := false }, kinds := [], alts := [], laidByText := true, laidKinds := [.data], laidTests := true, laidLooks := .later }
def LiteralPlacesUptoCardSaid : Prop := Claim7.holds Tryd.pinned (.plain (OpenSpec.upto literalPlacesSpec)) literalPlacesUptoCard

/-- THE SECOND FORM's CARD OF 'riddlelaw15.LiteralRuns'. -/
def literalRunsUptoCard : Claim7 := { stood := { row := literalRunsUptoRow, standIns := [], harness := (true, "e8bba564bd857c8bf1783885c2bb4ea59e361581994667603a98a9b8a45250ce"), looks := false }, kinds := [], alts := [], laidByText := true, laidKinds := [.data], laidTests := true, laidLooks := .later }
def LiteralRunsUptoCardSaid : Prop := Claim7.holds Tryd.pinned (.plain (OpenSpec.upto literalRunsSpec)) literalRunsUptoCard

/-- THE SECOND FORM's CARD OF 'riddlelaw15.LiteralNeeds'. -/
def literalNeedsUptoCard : Claim7 := { stood := { row := literalNeedsUptoRow, standIns := [], harness := (true, "e8bba564bd857c8bf1783885c2bb4ea59e361581994667603a98a9b8a45250ce"), looks := false }, kinds := [], alts := [], laidByText := true, laidKinds := [.data], laidTests := true, laidLooks := .later }
def LiteralNeedsUptoCardSaid : Prop := Claim7.holds Tryd.pinned (.plain (OpenSpec.upto literalNeedsSpec)) literalNeedsUptoCard
end Rows
end Go.Proofs.YthbmfnibgjlkhaaDoor
