/-
  NARROWER THAN 'FOR EVERY INPUT', by the rows' own cells (each row's printed sentence says how): FnExactOverOk: loops · FnExactOversOk: loops · FnExactHit: loops.
  DERIVED. THE GIVEN ROWS OF THIS SEAT. 4 by the template 'for every input the law returns true; each argument reads behind the call as it read before'; 0 by the template 'total and deterministic' (their statements: YtgmddookohkhlaaTotals.lean).
  GIVEN WITH THE SEED: the statements are not yours to turn. If you find one false, say at which input.
  Laid BY PROGRAM, IN A SANDBOX (cutbox-rows.mjs): the forced cells as the released guide's own fill.sh prints them over the translation 3e75dab3b9ed7797… (all of the seat's roots in one cut). By AI agents, Wed Nov 11 2026. No macro, syntax, notation, axiom, sorry.
-/
import Derived.Test.YtgmddookohkhlaaChecked
import GoSem.Claim
import GoSem.ClaimJoined
import GoSem.ClaimMapViews
import Derived.JoinedTies
import Derived.KernelRfl
namespace Go.Proofs.Ytgmddookohkhlaa
/- THE CELL 'sum', in the pinned program and in every row, IS THE sha256 OF THE DUMP (.gsa) THAT YtgmddookohkhlaaProg.lean LOADS. Nothing in Lean hashes anything: it is a label: what it is worth is what the hold of that sum in a sandbox is worth. -/
noncomputable def Try.pinned : Pinned := { name := "ytgmddookohkhlaa", sum := "3e75dab3b9ed77975258fa1a48f68e9a5a74020d6e5e0c88a6ca18f6c31b2028", checked := Try.checked }
namespace Rows
def none {H : Type} : Left H := { results := [], args := [] }

/-- 'laws.FnExactOverOk': WHATEVER THE INPUT: true; the input reads as it did. -/
def fnExactOverOkSpec : ChangeSpec := { name := "fnExactOverOk", fn := fun _ => fun
  | [d] => { results := [.lit (.bool true)], args := [d] }
  | _ => none }
def fnExactOverOkRow : OpenClaim := { program := "ytgmddookohkhlaa", sum := "3e75dab3b9ed77975258fa1a48f68e9a5a74020d6e5e0c88a6ca18f6c31b2028", func := "loop.example/g00236/laws.FnExactOverOk", spec := "fnExactOverOk", unfollowed := true, recurses := true, loops := true, plainKeys := false, apart := false }
def FnExactOverOkSaid : Prop := fnExactOverOkRow.holds Try.pinned (OpenSpec.ofChange fnExactOverOkSpec)

/-- ITS FALSE NEIGHBOUR: 'it returns false'. Refute it at one input. -/
def fnExactOverOkWrong : ChangeSpec := { name := "fnExactOverOk", fn := fun _ => fun
  | [d] => { results := [.lit (.bool false)], args := [d] }
  | _ => none }
def FnExactOverOkWrongFalsely : Prop := fnExactOverOkRow.holds Try.pinned (OpenSpec.ofChange fnExactOverOkWrong)

/-- 'laws.FnExactOversOk': WHATEVER THE INPUT: true; the input reads as it did. -/
def fnExactOversOkSpec : ChangeSpec := { name := "fnExactOversOk", fn := fun _ => fun
  | [d] => { results := [.lit (.bool true)], args := [d] }
  | _ => none }
def fnExactOversOkRow : OpenClaim := { program := "ytgmddookohkhlaa", sum := "3e75dab3b9ed77975258fa1a48f68e9a5a74020d6e5e0c88a6ca18f6c31b2028", func := "loop.example/g00236/laws.FnExactOversOk", spec := "fnExactOversOk", unfollowed := true, recurses := true, loops := true, plainKeys := false, apart := false }
def FnExactOversOkSaid : Prop := fnExactOversOkRow.holds Try.pinned (OpenSpec.ofChange fnExactOversOkSpec)

/-- ITS FALSE NEIGHBOUR: 'it returns false'. Refute it at one input. -/
def fnExactOversOkWrong : ChangeSpec := { name := "fnExactOversOk", fn := fun _ => fun
  | [d] => { results := [.lit (.bool false)], args := [d] }
  | _ => none }
def FnExactOversOkWrongFalsely : Prop := fnExactOversOkRow.holds Try.pinned (OpenSpec.ofChange fnExactOversOkWrong)

/-- 'laws.FnExactHit': WHATEVER THE INPUT: true; the input reads as it did. -/
def fnExactHitSpec : ChangeSpec := { name := "fnExactHit", fn := fun _ => fun
  | [d1, d2] => { results := [.lit (.bool true)], args := [d1, d2] }
  | _ => none }
def fnExactHitRow : OpenClaim := { program := "ytgmddookohkhlaa", sum := "3e75dab3b9ed77975258fa1a48f68e9a5a74020d6e5e0c88a6ca18f6c31b2028", func := "loop.example/g00236/laws.FnExactHit", spec := "fnExactHit", unfollowed := true, recurses := true, loops := true, plainKeys := false, apart := false }
def FnExactHitSaid : Prop := fnExactHitRow.holds Try.pinned (OpenSpec.ofChange fnExactHitSpec)

/-- ITS FALSE NEIGHBOUR: 'it returns false'. Refute it at one input. -/
def fnExactHitWrong : ChangeSpec := { name := "fnExactHit", fn := fun _ => fun
  | [d1, d2] => { results := [.lit (.bool false)], args := [d1, d2] }
  | _ => none }
def FnExactHitWrongFalsely : Prop := fnExactHitRow.holds Try.pinned (OpenSpec.ofChange fnExactHitWrong)

/-- 'laws.FnExactWhom': WHATEVER THE INPUT: true; the input reads as it did. -/
def fnExactWhomSpec : ChangeSpec := { name := "fnExactWhom", fn := fun _ => fun
  | [d1, d2, d3] => { results := [.lit (.bool true)], args := [d1, d2, d3] }
  | _ => none }
def fnExactWhomRow : OpenClaim := { program := "ytgmddookohkhlaa", sum := "3e75dab3b9ed77975258fa1a48f68e9a5a74020d6e5e0c88a6ca18f6c31b2028", func := "loop.example/g00236/laws.FnExactWhom", spec := "fnExactWhom", unfollowed := true, recurses := true, plainKeys := false, apart := false }
def FnExactWhomSaid : Prop := fnExactWhomRow.holds Try.pinned (OpenSpec.ofChange fnExactWhomSpec)

/-- ITS FALSE NEIGHBOUR: 'it returns false'. Refute it at one input. -/
def fnExactWhomWrong : ChangeSpec := { name := "fnExactWhom", fn := fun _ => fun
  | [d1, d2, d3] => { results := [.lit (.bool false)], args := [d1, d2, d3] }
  | _ => none }
def FnExactWhomWrongFalsely : Prop := fnExactWhomRow.holds Try.pinned (OpenSpec.ofChange fnExactWhomWrong)

/- THE SECOND FORM. 'bulk': how many values and letters a reading holds, each counted each time it is reached (what is shared counts as often as it is met; a slice's spare places count too). A statement '..UptoSaid' is the law's where the arguments, and the package variables that the reading takes, are together of bulk at most 1048576: NARROWER than '..Said'. Prove '..Said' where nothing that the law and all that it calls make is longer than what came in: it says more and counts as full. Else prove '..UptoSaid'. A law counts once. -/
mutual
def uptoBulk {H : Type} : DataW H → Nat
  | .lit (.string bytes) => bytes.length + 1
  | .lit _ => 1
  | .nil => 1
  | .ptr d => uptoBulk d + 1
  | .slice elems spare => uptoBulkAll elems + uptoBulkAll spare + 1
  | .agg parts => uptoBulkAll parts + 1
  | .iface _ d => uptoBulk d + 1
  | .map entries => uptoBulkEntries entries + 1
  | .held _ => 1
def uptoBulkAll {H : Type} : List (DataW H) → Nat
  | [] => 0
  | d :: r => uptoBulk d + uptoBulkAll r
def uptoBulkEntries {H : Type} : List (Lit × DataW H) → Nat
  | [] => 0
  | x :: r => uptoBulkEntry x + uptoBulkEntries r
def uptoBulkEntry {H : Type} : Lit × DataW H → Nat
  | (.string bytes, d) => bytes.length + uptoBulk d + 1
  | (_, d) => uptoBulk d + 1
 end
def uptoSmall : (H : Type) → List (DataW H) → Bool := fun _ ds => decide (uptoBulkAll ds ≤ 1048576)
def OpenSpec.upto (s : _root_.Go.ChangeSpec) : _root_.Go.OpenSpec := { _root_.Go.OpenSpec.ofChange s with cond := some uptoSmall }

/-- 'laws.FnExactOverOk', WHERE WHAT IT READS IS OF BULK AT MOST 1048576: true; the input reads as it did. -/
def fnExactOverOkUptoRow : OpenClaim := { program := "ytgmddookohkhlaa", sum := "3e75dab3b9ed77975258fa1a48f68e9a5a74020d6e5e0c88a6ca18f6c31b2028", func := "loop.example/g00236/laws.FnExactOverOk", spec := "fnExactOverOk", unfollowed := true, recurses := true, loops := true, plainKeys := false, apart := false, narrowed := true }
def FnExactOverOkUptoSaid : Prop := fnExactOverOkUptoRow.holds Try.pinned (OpenSpec.upto fnExactOverOkSpec)

/-- 'laws.FnExactOversOk', WHERE WHAT IT READS IS OF BULK AT MOST 1048576: true; the input reads as it did. -/
def fnExactOversOkUptoRow : OpenClaim := { program := "ytgmddookohkhlaa", sum := "3e75dab3b9ed77975258fa1a48f68e9a5a74020d6e5e0c88a6ca18f6c31b2028", func := "loop.example/g00236/laws.FnExactOversOk", spec := "fnExactOversOk", unfollowed := true, recurses := true, loops := true, plainKeys := false, apart := false, narrowed := true }
def FnExactOversOkUptoSaid : Prop := fnExactOversOkUptoRow.holds Try.pinned (OpenSpec.upto fnExactOversOkSpec)

/-- 'laws.FnExactHit', WHERE WHAT IT READS IS OF BULK AT MOST 1048576: true; the input reads as it did. -/
def fnExactHitUptoRow : OpenClaim := { program := "ytgmddookohkhlaa", sum := "3e75dab3b9ed77975258fa1a48f68e9a5a74020d6e5e0c88a6ca18f6c31b2028", func := "loop.example/g00236/laws.FnExactHit", spec := "fnExactHit", unfollowed := true, recurses := true, loops := true, plainKeys := false, apart := false, narrowed := true }
def FnExactHitUptoSaid : Prop := fnExactHitUptoRow.holds Try.pinned (OpenSpec.upto fnExactHitSpec)

/-- 'laws.FnExactWhom', WHERE WHAT IT READS IS OF BULK AT MOST 1048576: true; the input reads as it did. -/
def fnExactWhomUptoRow : OpenClaim := { program := "ytgmddookohkhlaa", sum := "3e75dab3b9ed77975258fa1a48f68e9a5a74020d6e5e0c88a6ca18f6c31b2028", func := "loop.example/g00236/laws.FnExactWhom", spec := "fnExactWhom", unfollowed := true, recurses := true, plainKeys := false, apart := false, narrowed := true }
def FnExactWhomUptoSaid : Prop := fnExactWhomUptoRow.holds Try.pinned (OpenSpec.upto fnExactWhomSpec)

end Rows
end Go.Proofs.Ytgmddookohkhlaa
