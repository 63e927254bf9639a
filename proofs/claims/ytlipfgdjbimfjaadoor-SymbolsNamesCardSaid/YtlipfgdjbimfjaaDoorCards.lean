/-
  DERIVED. GIVEN WITH THE SEED: THE CARDS: each row of YtlipfgdjbimfjaaDoorRows.lean that lists a variable, with what it lists TIED to the program's text (the seventh form; the later family's looks); each row that meets fmt, with fmt's text TOLD by the authors' own Lean function (tested against real Go, not proved from fmt's source: count such statements apart). THE CARD IS WHAT COUNTS. Prove the row's statement (the work); the ties are given (YtlipfgdjbimfjaaDoorTie.lean); close each card by the builder's one call (the guide's Derived/Test/ToyasCard.lean, 'card_holds'). Laid BY PROGRAM, IN A SANDBOX (cutbox-door.mjs). By AI agents, Wed Nov 11 2026. No macro, syntax, notation, axiom, sorry.
-/
import Derived.Test.YtlipfgdjbimfjaaDoorRows
import GoSem.ClaimSeven
namespace Go.Proofs.YtlipfgdjbimfjaaDoor
namespace Rows

/-- THE TIED CARD OF 'newellaw06.SymbolsNames'. -/
def symbolsNamesCard : Claim7 := { stood := { row := symbolsNamesRow, standIns := [], harness := (true, "3e1b085d9c90c913ff5729bb2358cb98ae0dcb216bb25582f8ec3cba2c53c259"), looks := false }, kinds := [], alts := [], laidByText := true, laidKinds := [.data], laidTests := true, laidLooks := .later }
def SymbolsNamesCardSaid : Prop := Claim7.holds Tryd.pinned (.plain (OpenSpec.ofChange symbolsNamesSpec)) symbolsNamesCard

/-- THE SECOND FORM's CARD OF 'newellaw06.SymbolsNames'. -/
def symbolsNamesUptoCard : Claim7 := { stood := { row := symbolsNamesUptoRow, standIns := [], harness := (true, "3e1b085d9c90c913ff5729bb2358cb98ae0dcb216bb25582f8ec3cba2c53c259"), looks := false }, kinds := [], alts := [], laidByText := true, laidKinds := [.data], laidTests := true, laidLooks := .later }
def SymbolsNamesUptoCardSaid : Prop := Claim7.holds Tryd.pinned (.plain (OpenSpec.upto symbolsNamesSpec)) symbolsNamesUptoCard
end Rows
end Go.Proofs.YtlipfgdjbimfjaaDoor
