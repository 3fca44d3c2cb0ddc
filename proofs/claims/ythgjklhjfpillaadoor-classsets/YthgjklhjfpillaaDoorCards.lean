/-
  DERIVED. GIVEN WITH THE SEED: THE CARDS: each row of YthgjklhjfpillaaDoorRows.lean that lists a variable, with what it lists TIED to the program's text (the seventh form; the later family's looks); each row that meets fmt, with fmt's text TOLD by the authors' own Lean function (tested against real Go, not proved from fmt's source: count such statements apart). THE CARD IS WHAT COUNTS. Prove the row's statement (the work); the ties are given (YthgjklhjfpillaaDoorTie.lean); close each card by the builder's one call (the guide's Derived/Test/ToyasCard.lean, 'card_holds'). Laid BY PROGRAM, IN A SANDBOX (cutbox-door.mjs). By AI agents, Wed Nov 11 2026. No macro, syntax, notation, axiom, sorry.
-/
import Derived.Test.YthgjklhjfpillaaDoorRows
import GoSem.ClaimSeven
namespace Go.Proofs.YthgjklhjfpillaaDoor
namespace Rows

/-- THE TIED CARD OF 'riddlelaw02.ClassMakes'. -/
def classMakesCard : Claim7 := { stood := { row := classMakesRow, standIns := [], harness := (true, "f1dfcdc54e4e72e68c5e0529c5868b2db9ae2f2ccff9a96b376f6946db0709c2"), looks := false }, kinds := [], alts := [], laidByText := true, laidKinds := [.data], laidTests := true, laidLooks := .later }
def ClassMakesCardSaid : Prop := Claim7.holds Tryd.pinned (.plain (OpenSpec.ofChange classMakesSpec)) classMakesCard

/-- THE TIED CARD OF 'riddlelaw02.ClassHas'. -/
def classHasCard : Claim7 := { stood := { row := classHasRow, standIns := [], harness := (true, "f1dfcdc54e4e72e68c5e0529c5868b2db9ae2f2ccff9a96b376f6946db0709c2"), looks := false }, kinds := [], alts := [], laidByText := true, laidKinds := [.data], laidTests := true, laidLooks := .later }
def ClassHasCardSaid : Prop := Claim7.holds Tryd.pinned (.plain (OpenSpec.ofChange classHasSpec)) classHasCard

/-- THE TIED CARD OF 'riddlelaw02.ClassJoins'. -/
def classJoinsCard : Claim7 := { stood := { row := classJoinsRow, standIns := [], harness := (true, "f1dfcdc54e4e72e68c5e0529c5868b2db9ae2f2ccff9a96b376f6946db0709c2"), looks := false }, kinds := [], alts := [], laidByText := true, laidKinds := [.data], laidTests := true, laidLooks := .later }
def ClassJoinsCardSaid : Prop := Claim7.holds Tryd.pinned (.plain (OpenSpec.ofChange classJoinsSpec)) classJoinsCard

/-- THE TIED CARD OF 'riddlelaw02.ClassTells'. -/
def classTellsCard : Claim7 := { stood := { row := classTellsRow, standIns := [], harness := (true, "f1dfcdc54e4e72e68c5e0529c5868b2db9ae2f2ccff9a96b376f6946db0709c2"), looks := false }, kinds := [], alts := [], laidByText := true, laidKinds := [.data], laidTests := true, laidLooks := .later }
def ClassTellsCardSaid : Prop := Claim7.holds Tryd.pinned (.plain (OpenSpec.ofChange classTellsSpec)) classTellsCard

/-- THE TIED CARD OF 'riddlelaw02.ClassTexts'. -/
def classTextsCard : Claim7 := { stood := { row := classTextsRow, standIns := [], harness := (true, "f1dfcdc54e4e72e68c5e0529c5868b2db9ae2f2ccff9a96b376f6946db0709c2"), looks := false }, kinds := [], alts := [], laidByText := true, laidKinds := [.data], laidTests := true, laidLooks := .later }
def ClassTextsCardSaid : Prop := Claim7.holds Tryd.pinned (.plain (OpenSpec.ofChange classTextsSpec)) classTextsCard

/-- THE TIED CARD OF 'riddlelaw02.ClassSets'. -/
def classSetsCard : Claim7 := { stood := { row := classSetsRow, standIns := [], harness := (true, "f1dfcdc54e4e72e68c5e0529c5868b2db9ae2f2ccff9a96b376f6946db0709c2"), looks := false }, kinds := [], alts := [], laidByText := true, laidKinds := [.data], laidTests := true, laidLooks := .later }
def ClassSetsCardSaid : Prop := Claim7.holds Tryd.pinned (.plain (OpenSpec.ofChange classSetsSpec)) classSetsCard

/-- THE SECOND FORM's CARD OF 'riddlelaw02.ClassMakes'. -/
def classMakesUptoCard : Claim7 := { stood := { row := classMakesUptoRow, standIns := [], harness := (true, "f1dfcdc54e4e72e68c5e0529c5868b2db9ae2f2ccff9a96b376f6946db0709c2"), looks := false }, kinds := [], alts := [], laidByText := true, laidKinds := [.data], laidTests := true, laidLooks := .later }
def ClassMakesUptoCardSaid : Prop := Claim7.holds Tryd.pinned (.plain (OpenSpec.upto classMakesSpec)) classMakesUptoCard

/-- THE SECOND FORM's CARD OF 'riddlelaw02.ClassHas'. -/
def classHasUptoCard : Claim7 := { stood := { row := classHasUptoRow, standIns := [], harness := (true, "f1dfcdc54e4e72e68c5e0529c5868b2db9ae2f2ccff9a96b376f6946db0709c2"), looks := false }, kinds := [], alts := [], laidByText := true, laidKinds := [.data], laidTests := true, laidLooks := .later }
def ClassHasUptoCardSaid : Prop := Claim7.holds Tryd.pinned (.plain (OpenSpec.upto classHasSpec)) classHasUptoCard

/-- THE SECOND FORM's CARD OF 'riddlelaw02.ClassJoins'. -/
def classJoinsUptoCard : Claim7 := { stood := { row := classJoinsUptoRow, standIns := [], harness := (true, "f1dfcdc54e4e72e68c5e0529c5868b2db9ae2f2ccff9a96b376f6946db0709c2"), looks := false }, kinds := [], alts := [], laidByText := true, laidKinds := [.data], laidTests := true, laidLooks := .later }
def ClassJoinsUptoCardSaid : Prop := Claim7.holds Tryd.pinned (.plain (OpenSpec.upto classJoinsSpec)) classJoinsUptoCard

/-- THE SECOND FORM's CARD OF 'riddlelaw02.ClassTells'. -/
def classTellsUptoCard : Claim7 := { stood := { row := classTellsUptoRow, standIns := [], harness := (true, "f1dfcdc54e4e72e68c5e0529c5868b2db9ae2f2ccff9a96b376f6946db0709c2"), looks := false }, kinds := [], alts := [], laidByText := true, laidKinds := [.data], laidTests := true, laidLooks := .later }
def ClassTellsUptoCardSaid : Prop := Claim7.holds Tryd.pinned (.plain (OpenSpec.upto classTellsSpec)) classTellsUptoCard

/-- THE SECOND FORM's CARD OF 'riddlelaw02.ClassTexts'. -/
def classTextsUptoCard : Claim7 := { stood := { row := classTextsUptoRow, standIns := [], harness := (true, "f1dfcdc54e4e72e68c5e0529c5868b2db9ae2f2ccff9a96b376f6946db0709c2"), looks := false }, kinds := [], alts := [], laidByText := true, laidKinds := [.data], laidTests := true, laidLooks := .later }
def ClassTextsUptoCardSaid : Prop := Claim7.holds Tryd.pinned (.plain (OpenSpec.upto classTextsSpec)) classTextsUptoCard

/-- THE SECOND FORM's CARD OF 'riddlelaw02.ClassSets'. -/
def classSetsUptoCard : Claim7 := { stood := { row := classSetsUptoRow, standIns := [], harness := (true, "f1dfcdc54e4e72e68c5e0529c5868b2db9ae2f2ccff9a96b376f6946db0709c2"), looks := false }, kinds := [], alts := [], laidByText := true, laidKinds := [.data], laidTests := true, laidLooks := .later }
def ClassSetsUptoCardSaid : Prop := Claim7.holds Tryd.pinned (.plain (OpenSpec.upto classSetsSpec)) classSetsUptoCard
end Rows
end Go.Proofs.YthgjklhjfpillaaDoor
