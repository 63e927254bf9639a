/-
  DERIVED. GIVEN WITH THE SEED: THE CARDS: each row of YthcoigdmammamaaGreatDoorRows.lean that lists a variable, with what it lists TIED to the program's text (the seventh form; the later family's looks); each row that meets fmt, with fmt's text TOLD by the authors' own Lean function (tested against real Go, not proved from fmt's source: count such statements apart). THE CARD IS WHAT COUNTS. Prove the row's statement (the work); the ties are given (YthcoigdmammamaaGreatDoorTie.lean); close each card by the builder's one call (the guide's Derived/Test/ToyasCard.lean, 'card_holds'). Laid BY PROGRAM, IN A SANDBOX (cutbox-door.mjs). By AI agents, Wed Nov 11 2026. No macro, syntax, notation, axiom, sorry.
-/
import Derived.Test.YthcoigdmammamaaGreatDoorRows
import GoSem.ClaimSeven
namespace Go.Proofs.YthcoigdmammamaaGreatDoor
namespace Rows

/-- THE TIED CARD OF 'newellaw02.SyntaxBack'. -/
def syntaxBackCard : Claim7 := { stood := { row := syntaxBackRow, standIns := [], harness := (true, "62ac2bd858f15d8d5eca542b701927b30af922d566c2b47c6f2f89364102d50a"), looks := true }, kinds := [], alts := [], laidByText := true, laidKinds := [.data, .data, .data, .data, .sentinel, .sentinel, .listed, .data, .data, .pinned], laidTests := true, laidLooks := .later }
def SyntaxBackCardSaid : Prop := Claim7.holds Tryz.pinned (.plain (OpenSpec.ofChange syntaxBackSpec)) syntaxBackCard

/-- THE TIED CARD OF 'newellaw02.SyntaxUndone'. -/
def syntaxUndoneCard : Claim7 := { stood := { row := syntaxUndoneRow, standIns := [], harness := (true, "62ac2bd858f15d8d5eca542b701927b30af922d566c2b47c6f2f89364102d50a"), looks := true }, kinds := [], alts := [], laidByText := true, laidKinds := [.data, .data, .data, .data, .listed, .data, .data, .pinned], laidTests := true, laidLooks := .later }
def SyntaxUndoneCardSaid : Prop := Claim7.holds Tryz.pinned (.plain (OpenSpec.ofChange syntaxUndoneSpec)) syntaxUndoneCard

/-- THE SECOND FORM's CARD OF 'newellaw02.SyntaxBack'. -/
def syntaxBackUptoCard : Claim7 := { stood := { row := syntaxBackUptoRow, standIns := [], harness := (true, "62ac2bd858f15d8d5eca542b701927b30af922d566c2b47c6f2f89364102d50a"), looks := true }, kinds := [], alts := [], laidByText := true, laidKinds := [.data, .data, .data, .data, .sentinel, .sentinel, .listed, .data, .data, .pinned], laidTests := true, laidLooks := .later }
def SyntaxBackUptoCardSaid : Prop := Claim7.holds Tryz.pinned (.plain (OpenSpec.upto syntaxBackSpec)) syntaxBackUptoCard

/-- THE SECOND FORM's CARD OF 'newellaw02.SyntaxUndone'. -/
def syntaxUndoneUptoCard : Claim7 := { stood := { row := syntaxUndoneUptoRow, standIns := [], harness := (true, "62ac2bd858f15d8d5eca542b701927b30af922d566c2b47c6f2f89364102d50a"), looks := true }, kinds := [], alts := [], laidByText := true, laidKinds := [.data, .data, .data, .data, .listed, .data, .data, .pinned], laidTests := true, laidLooks := .later }
def SyntaxUndoneUptoCardSaid : Prop := Claim7.holds Tryz.pinned (.plain (OpenSpec.upto syntaxUndoneSpec)) syntaxUndoneUptoCard
end Rows
end Go.Proofs.YthcoigdmammamaaGreatDoor
