/- The law's own look whether the marks on terms are held. -/
import Derived.Test.YtkfpfijblflcfaaMarkT
import Derived.Deep.DeepCutAuto
import Derived.Deep.CutRange
namespace Go.Proofs.Ytkfpfijblflcfaa
open Go.RowKit
set_option linter.unusedVariables false

/-- The contract of the look at a list. -/
def HdS (f d : Nat) : Prop := ∀ (v : Value) (ts : List (Tm d)) (k : Int) (w : World), RdL d w v (markL d k ts).1 → 0 ≤ k → k + 3 * (cntL d ts : Nat) ≤ 1099511627776 →
  Calls Try.prog f #[v, .int .i64 k] w fun e w' => e = .returned (.int .i64 (k + 3 * (cntL d ts : Nat))) ∧ Below w.heap.size w w'

theorem len_cntL (d : Nat) (ts : List (Tm (d + 1))) : ts.length ≤ cntL (d + 1) ts := by
  show ts.length ≤ (ts.map fun t => 1 + cntL d t.L).sum
  induction ts with
  | nil => simp
  | cons t r ih2 => simp only [List.length_cons, List.map_cons, List.sum_cons]; omega

end Go.Proofs.Ytkfpfijblflcfaa
