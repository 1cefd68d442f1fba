/-
  DERIVED. GIVEN WITH THE SEED: THE CARDS: each row of YtfachfimdenapaaDoorRows.lean that lists a variable, with what it lists TIED to the program's text (the seventh form; the later family's looks); each row that meets fmt, with fmt's text TOLD by the authors' own Lean function (tested against real Go, not proved from fmt's source: count such statements apart). THE CARD IS WHAT COUNTS. Prove the row's statement (the work); the ties are given (YtfachfimdenapaaDoorTie.lean); close each card by the builder's one call (the guide's Derived/Test/ToyasCard.lean, 'card_holds'). Laid BY PROGRAM, IN A SANDBOX (cutbox-door.mjs). By AI agents, Wed Nov 11 2026. No macro, syntax, notation, axiom, sorry.
-/
import Derived.Test.YtfachfimdenapaaDoorRows
import GoSem.ClaimSeven
namespace Go.Proofs.YtfachfimdenapaaDoor
namespace Rows

/-- THE TIED CARD OF 'laws.FnExactPutCode'. -/
def fnExactPutCodeCard : Claim7 := { stood := { row := fnExactPutCodeRow, standIns := [], harness := (true, "594f928f71f62d1765a3ebe1fa1a9991209584e16f435528199980db345b7e6d"), looks := false }, kinds := [], alts := [], laidByText := true, laidKinds := [.data], laidTests := true, laidLooks := .later }
def FnExactPutCodeCardSaid : Prop := Claim7.holds Tryd.pinned (.plain (OpenSpec.ofChange fnExactPutCodeSpec)) fnExactPutCodeCard

/-- THE SECOND FORM's CARD OF 'laws.FnExactPutCode'. -/
def fnExactPutCodeUptoCard : Claim7 := { stood := { row := fnExactPutCodeUptoRow, standIns := [], harness := (true, "594f928f71f62d1765a3ebe1fa1a9991209584e16f435528199980db345b7e6d"), looks := false }, kinds := [], alts := [], laidByText := true, laidKinds := [.data], laidTests := true, laidLooks := .later }
def FnExactPutCodeUptoCardSaid : Prop := Claim7.holds Tryd.pinned (.plain (OpenSpec.upto fnExactPutCodeSpec)) fnExactPutCodeUptoCard
end Rows
end Go.Proofs.YtfachfimdenapaaDoor
