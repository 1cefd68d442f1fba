/-
  No cell of these rows narrows 'for every input' (looked for: loops, veiled, ifaces, maps, wideKeys, modest, calm, conditions, laid).
  DERIVED. THE GIVEN ROWS OF THIS SEAT. 3 by the template 'for every input the law returns true; each argument reads behind the call as it read before'; 0 by the template 'total and deterministic' (their statements: YtkfpfijblflcfaaTotals.lean).
  GIVEN WITH THE SEED: the statements are not yours to turn. If you find one false, say at which input.
  Laid BY PROGRAM, IN A SANDBOX (cutbox-rows.mjs): the forced cells as the released guide's own fill.sh prints them over the translation 8759af70a50cec12… (all of the seat's roots in one cut). By AI agents, Wed Nov 11 2026. No macro, syntax, notation, axiom, sorry.
-/
import Derived.Test.YtkfpfijblflcfaaChecked
import GoSem.Claim
import GoSem.ClaimJoined
import GoSem.ClaimMapViews
import Derived.JoinedTies
import Derived.KernelRfl
namespace Go.Proofs.Ytkfpfijblflcfaa
/- THE CELL 'sum', in the pinned program and in every row, IS THE sha256 OF THE DUMP (.gsa) THAT YtkfpfijblflcfaaProg.lean LOADS. Nothing in Lean hashes anything: it is a label: what it is worth is what the hold of that sum in a sandbox is worth. -/
noncomputable def Try.pinned : Pinned := { name := "ytkfpfijblflcfaa", sum := "8759af70a50cec1262759b07287f78ffe8218f59db6c5c211e0ef85da29a52c9", checked := Try.checked }
namespace Rows
def none {H : Type} : Left H := { results := [], args := [] }

/-- 'laws.FnHit': WHATEVER THE INPUT: true; the input reads as it did. -/
def fnHitSpec : ChangeSpec := { name := "fnHit", fn := fun _ => fun
  | [d] => { results := [.lit (.bool true)], args := [d] }
  | _ => none }
def fnHitRow : OpenClaim := { program := "ytkfpfijblflcfaa", sum := "8759af70a50cec1262759b07287f78ffe8218f59db6c5c211e0ef85da29a52c9", func := "loop.example/g00236/laws.FnHit", spec := "fnHit", unfollowed := true, recurses := true, plainKeys := false, apart := false }
def FnHitSaid : Prop := fnHitRow.holds Try.pinned (OpenSpec.ofChange fnHitSpec)

/-- ITS FALSE NEIGHBOUR: 'it returns false'. Refute it at one input. -/
def fnHitWrong : ChangeSpec := { name := "fnHit", fn := fun _ => fun
  | [d] => { results := [.lit (.bool false)], args := [d] }
  | _ => none }
def FnHitWrongFalsely : Prop := fnHitRow.holds Try.pinned (OpenSpec.ofChange fnHitWrong)

/-- 'laws.FnWhom': WHATEVER THE INPUT: true; the input reads as it did. -/
def fnWhomSpec : ChangeSpec := { name := "fnWhom", fn := fun _ => fun
  | [d] => { results := [.lit (.bool true)], args := [d] }
  | _ => none }
def fnWhomRow : OpenClaim := { program := "ytkfpfijblflcfaa", sum := "8759af70a50cec1262759b07287f78ffe8218f59db6c5c211e0ef85da29a52c9", func := "loop.example/g00236/laws.FnWhom", spec := "fnWhom", unfollowed := true, recurses := true, plainKeys := false, apart := false }
def FnWhomSaid : Prop := fnWhomRow.holds Try.pinned (OpenSpec.ofChange fnWhomSpec)

/-- ITS FALSE NEIGHBOUR: 'it returns false'. Refute it at one input. -/
def fnWhomWrong : ChangeSpec := { name := "fnWhom", fn := fun _ => fun
  | [d] => { results := [.lit (.bool false)], args := [d] }
  | _ => none }
def FnWhomWrongFalsely : Prop := fnWhomRow.holds Try.pinned (OpenSpec.ofChange fnWhomWrong)

/-- 'laws.FnOvers': WHATEVER THE INPUT: true; the input reads as it did. -/
def fnOversSpec : ChangeSpec := { name := "fnOvers", fn := fun _ => fun
  | [d] => { results := [.lit (.bool true)], args := [d] }
  | _ => none }
def fnOversRow : OpenClaim := { program := "ytkfpfijblflcfaa", sum := "8759af70a50cec1262759b07287f78ffe8218f59db6c5c211e0ef85da29a52c9", func := "loop.example/g00236/laws.FnOvers", spec := "fnOvers", unfollowed := true, recurses := true, plainKeys := false, apart := false }
def FnOversSaid : Prop := fnOversRow.holds Try.pinned (OpenSpec.ofChange fnOversSpec)

/-- ITS FALSE NEIGHBOUR: 'it returns false'. Refute it at one input. -/
def fnOversWrong : ChangeSpec := { name := "fnOvers", fn := fun _ => fun
  | [d] => { results := [.lit (.bool false)], args := [d] }
  | _ => none }
def FnOversWrongFalsely : Prop := fnOversRow.holds Try.pinned (OpenSpec.ofChange fnOversWrong)

/- THE SECOND FORM. 'bulk': how many values and letters a reading holds, each counted each time it is reached (what is shared counts as often as it is met; a slice's spare places count too). A statement '..UptoSaid' is the law's where the arguments, and the package variables that the reading takes, are together of bulk at most 1048576: NARROWER than '..Said'. Prove '..Said' where nothing that the law and all that it calls make is longer than what came in: it says more and counts as full. Else prove '..UptoSaid'. A law counts once. -/
mutual
def uptoBulk {H : Type} : DataW H → Nat
  | .lit (.string bytes) => bytes.length + 1
  | .lit _ => 1
  | .nil => 1
  | .ptr d => uptoBulk d + 1
  | .slice elems spare => uptoBulkAll elems + uptoBulkAll spare + 1
  | .agg parts => uptoBulkAll parts + 1
  | .iface _ d => uptoBulk d + 1
  | .map entries => uptoBulkEntries entries + 1
  | .held _ => 1
def uptoBulkAll {H : Type} : List (DataW H) → Nat
  | [] => 0
  | d :: r => uptoBulk d + uptoBulkAll r
def uptoBulkEntries {H : Type} : List (Lit × DataW H) → Nat
  | [] => 0
  | x :: r => uptoBulkEntry x + uptoBulkEntries r
def uptoBulkEntry {H : Type} : Lit × DataW H → Nat
  | (.string bytes, d) => bytes.length + uptoBulk d + 1
  | (_, d) => uptoBulk d + 1
 end
def uptoSmall : (H : Type) → List (DataW H) → Bool := fun _ ds => decide (uptoBulkAll ds ≤ 1048576)
def OpenSpec.upto (s : _root_.Go.ChangeSpec) : _root_.Go.OpenSpec := { _root_.Go.OpenSpec.ofChange s with cond := some uptoSmall }

/-- 'laws.FnHit', WHERE WHAT IT READS IS OF BULK AT MOST 1048576: true; the input reads as it did. -/
def fnHitUptoRow : OpenClaim := { program := "ytkfpfijblflcfaa", sum := "8759af70a50cec1262759b07287f78ffe8218f59db6c5c211e0ef85da29a52c9", func := "loop.example/g00236/laws.FnHit", spec := "fnHit", unfollowed := true, recurses := true, plainKeys := false, apart := false, narrowed := true }
def FnHitUptoSaid : Prop := fnHitUptoRow.holds Try.pinned (OpenSpec.upto fnHitSpec)

/-- 'laws.FnWhom', WHERE WHAT IT READS IS OF BULK AT MOST 1048576: true; the input reads as it did. -/
def fnWhomUptoRow : OpenClaim := { program := "ytkfpfijblflcfaa", sum := "8759af70a50cec1262759b07287f78ffe8218f59db6c5c211e0ef85da29a52c9", func := "loop.example/g00236/laws.FnWhom", spec := "fnWhom", unfollowed := true, recurses := true, plainKeys := false, apart := false, narrowed := true }
def FnWhomUptoSaid : Prop := fnWhomUptoRow.holds Try.pinned (OpenSpec.upto fnWhomSpec)

/-- 'laws.FnOvers', WHERE WHAT IT READS IS OF BULK AT MOST 1048576: true; the input reads as it did. -/
def fnOversUptoRow : OpenClaim := { program := "ytkfpfijblflcfaa", sum := "8759af70a50cec1262759b07287f78ffe8218f59db6c5c211e0ef85da29a52c9", func := "loop.example/g00236/laws.FnOvers", spec := "fnOvers", unfollowed := true, recurses := true, plainKeys := false, apart := false, narrowed := true }
def FnOversUptoSaid : Prop := fnOversUptoRow.holds Try.pinned (OpenSpec.upto fnOversSpec)

end Rows
end Go.Proofs.Ytkfpfijblflcfaa
