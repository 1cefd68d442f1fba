/-
  DERIVED. GIVEN WITH THE SEED: THE CARDS: each row of YtkkdnkdkelligaaGreatDoorRows.lean that lists a variable, with what it lists TIED to the program's text (the seventh form; the later family's looks); each row that meets fmt, with fmt's text TOLD by the authors' own Lean function (tested against real Go, not proved from fmt's source: count such statements apart). THE CARD IS WHAT COUNTS. Prove the row's statement (the work); the ties are given (YtkkdnkdkelligaaGreatDoorTie.lean); close each card by the builder's one call (the guide's Derived/Test/ToyasCard.lean, 'card_holds'). Laid BY PROGRAM, IN A SANDBOX (cutbox-door.mjs). By AI agents, Wed Nov 11 2026. No macro, syntax, notation, axiom, sorry.
-/
import Derived.Test.YtkkdnkdkelligaaGreatDoorRows
import GoSem.ClaimSeven
namespace Go.Proofs.YtkkdnkdkelligaaGreatDoor
namespace Rows

/-- THE TIED CARD OF 'laws.FnExactVmOk'. -/
def fnExactVmOkCard : Claim7 := { stood := { row := fnExactVmOkRow, standIns := [], harness := (true, "5a6e8707a5f783cae5b0d8a7e1b49438a7d7d34d7c6344c84817c6676e8aecd3"), looks := true }, kinds := [], alts := [], laidByText := true, laidKinds := [.data], laidTests := true, laidLooks := .later }
def FnExactVmOkCardSaid : Prop := Claim7.holds Tryz.pinned (.plain (OpenSpec.ofChange fnExactVmOkSpec)) fnExactVmOkCard

/-- THE TIED CARD OF 'laws.FnExactVmNew'. -/
def fnExactVmNewCard : Claim7 := { stood := { row := fnExactVmNewRow, standIns := [], harness := (true, "5a6e8707a5f783cae5b0d8a7e1b49438a7d7d34d7c6344c84817c6676e8aecd3"), looks := true }, kinds := [], alts := [], laidByText := true, laidKinds := [.data], laidTests := true, laidLooks := .later }
def FnExactVmNewCardSaid : Prop := Claim7.holds Tryz.pinned (.plain (OpenSpec.ofChange fnExactVmNewSpec)) fnExactVmNewCard

/-- THE SECOND FORM's CARD OF 'laws.FnExactVmOk'. -/
def fnExactVmOkUptoCard : Claim7 := { stood := { row := fnExactVmOkUptoRow, standIns := [], harness := (true, "5a6e8707a5f783cae5b0d8a7e1b49438a7d7d34d7c6344c84817c6676e8aecd3"), looks := true }, kinds := [], alts := [], laidByText := true, laidKinds := [.data], laidTests := true, laidLooks := .later }
def FnExactVmOkUptoCardSaid : Prop := Claim7.holds Tryz.pinned (.plain (OpenSpec.upto fnExactVmOkSpec)) fnExactVmOkUptoCard

/-- THE SECOND FORM's CARD OF 'laws.FnExactVmNew'. -/
def fnExactVmNewUptoCard : Claim7 := { stood := { row := fnExactVmNewUptoRow, standIns := [], harness := (true, "5a6e8707a5f783cae5b0d8a7e1b49438a7d7d34d7c6344c84817c6676e8aecd3"), looks := true }, kinds := [], alts := [], laidByText := true, laidKinds := [.data], laidTests := true, laidLooks := .later }
def FnExactVmNewUptoCardSaid : Prop := Claim7.holds Tryz.pinned (.plain (OpenSpec.upto fnExactVmNewSpec)) fnExactVmNewUptoCard
end Rows
end Go.Proofs.YtkkdnkdkelligaaGreatDoor
