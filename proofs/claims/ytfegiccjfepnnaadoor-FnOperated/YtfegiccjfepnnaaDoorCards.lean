/-
  DERIVED. GIVEN WITH THE SEED: THE CARDS: each row of YtfegiccjfepnnaaDoorRows.lean that lists a variable, with what it lists TIED to the program's text (the seventh form; the later family's looks); each row that meets fmt, with fmt's text TOLD by the authors' own Lean function (tested against real Go, not proved from fmt's source: count such statements apart). THE CARD IS WHAT COUNTS. Prove the row's statement (the work); the ties are given (YtfegiccjfepnnaaDoorTie.lean); close each card by the builder's one call (the guide's Derived/Test/ToyasCard.lean, 'card_holds'). Laid BY PROGRAM, IN A SANDBOX (cutbox-door.mjs). By AI agents, Wed Nov 11 2026. No macro, syntax, notation, axiom, sorry.
-/
import Derived.Test.YtfegiccjfepnnaaDoorRows
import GoSem.ClaimSeven
namespace Go.Proofs.YtfegiccjfepnnaaDoor
namespace Rows

/-- THE TIED CARD OF 'laws.FnExactOperate'. -/
def fnExactOperateCard : Claim7 := { stood := { row := fnExactOperateRow, standIns := [], harness := (true, "0edf0a3a2254d20517da820d66d1749af565e3d439f9e58ee6a9ed1efa80d22f"), looks := true }, kinds := [], alts := [], laidByText := true, laidKinds := [.handle], laidTests := true, laidLooks := .later }
def FnExactOperateCardSaid : Prop := Claim7.holds Tryd.pinned (.plain (OpenSpec.ofChange fnExactOperateSpec)) fnExactOperateCard

/-- THE TIED CARD OF 'laws.FnOperated'. -/
def fnOperatedCard : Claim7 := { stood := { row := fnOperatedRow, standIns := [], harness := (true, "0edf0a3a2254d20517da820d66d1749af565e3d439f9e58ee6a9ed1efa80d22f"), looks := true }, kinds := [], alts := [], laidByText := true, laidKinds := [.handle], laidTests := true, laidLooks := .later }
def FnOperatedCardSaid : Prop := Claim7.holds Tryd.pinned (.plain (OpenSpec.ofChange fnOperatedSpec)) fnOperatedCard

/-- THE SECOND FORM's CARD OF 'laws.FnExactOperate'. -/
def fnExactOperateUptoCard : Claim7 := { stood := { row := fnExactOperateUptoRow, standIns := [], harness := (true, "0edf0a3a2254d20517da820d66d1749af565e3d439f9e58ee6a9ed1efa80d22f"), looks := true }, kinds := [], alts := [], laidByText := true, laidKinds := [.handle], laidTests := true, laidLooks := .later }
def FnExactOperateUptoCardSaid : Prop := Claim7.holds Tryd.pinned (.plain (OpenSpec.upto fnExactOperateSpec)) fnExactOperateUptoCard

/-- THE SECOND FORM's CARD OF 'laws.FnOperated'. -/
def fnOperatedUptoCard : Claim7 := { stood := { row := fnOperatedUptoRow, standIns := [], harness := (true, "0edf0a3a2254d20517da820d66d1749af565e3d439f9e58ee6a9ed1efa80d22f"), looks := true }, kinds := [], alts := [], laidByText := true, laidKinds := [.handle], laidTests := true, laidLooks := .later }
def FnOperatedUptoCardSaid : Prop := Claim7.holds Tryd.pinned (.plain (OpenSpec.upto fnOperatedSpec)) fnOperatedUptoCard
end Rows
end Go.Proofs.YtfegiccjfepnnaaDoor
