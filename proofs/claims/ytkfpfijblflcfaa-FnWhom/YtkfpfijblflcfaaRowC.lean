/- The contracts of the law's own measure, copy and comparison, of one and of a list. -/
import Derived.Test.YtkfpfijblflcfaaRow
namespace Go.Proofs.Ytkfpfijblflcfaa
open Go.RowKit

def SzEl {α : Type} (F : Nat) (R : World → List Value → α → Prop) (P : α → Prop) (f : α → Nat) : Prop := ∀ (vs : List Value) (x : α) (left : Int) (w : World), R w vs x → P x → 0 ≤ left → left ≤ 1048576 →
  Calls Try.prog F #[.agg vs.toArray, .int .i64 left] w fun e w' => e = .returned (.int .i64 (lft left (f x))) ∧ Below w.heap.size w w'
def SzLs {α : Type} (F k : Nat) (R : World → List Value → α → Prop) (P : α → Prop) (f : α → Nat) : Prop := ∀ (v : Value) (xs : List α) (left : Int) (w : World), RowOf k R w v xs → WfRow P xs → 0 ≤ left → left ≤ 1048576 →
  Calls Try.prog F #[v, .int .i64 left] w fun e w' => e = .returned (.int .i64 (lft left (szRow f xs))) ∧ Below w.heap.size w w'
def ToEl {α : Type} (F : Nat) (R : World → List Value → α → Prop) (O : World → List Value → α → List Nat → Prop) (P : α → Prop) (f : α → Nat) : Prop := ∀ (vs : List Value) (x : α) (w : World), R w vs x → P x → f x ≤ 1048576 →
  Calls Try.prog F #[.agg vs.toArray] w fun e w' => ∃ vs' fp, e = .returned (.agg vs'.toArray) ∧ O w' vs' x fp ∧ Fresh w.heap.size w' fp ∧ Below w.heap.size w w'
def ToLs {α : Type} (F k : Nat) (T : TypeId) (R : World → List Value → α → Prop) (O : World → List Value → α → List Nat → Prop) (P : α → Prop) (f : α → Nat) : Prop := ∀ (v : Value) (xs : List α) (w : World), RowOf k R w v xs → WfRow P xs → szRow f xs ≤ 1048576 →
  Calls Try.prog F #[v] w fun e w' => ∃ a l c fp, e = .returned (.slice a l c) ∧ OwnRow k T O w' (.slice a l c) xs fp ∧ Fresh w.heap.size w' fp ∧ Below w.heap.size w w'
def EqEl {α : Type} (F : Nat) (R : World → List Value → α → Prop) (P : α → Prop) : Prop := ∀ (vs1 vs2 : List Value) (x : α) (w : World), R w vs1 x → R w vs2 x → P x →
  Calls Try.prog F #[.agg vs1.toArray, .agg vs2.toArray] w fun e w' => e = .returned (.bool true) ∧ Below w.heap.size w w'
def EqLs {α : Type} (F k : Nat) (R : World → List Value → α → Prop) (P : α → Prop) : Prop := ∀ (v1 v2 : Value) (xs : List α) (w : World), RowOf k R w v1 xs → RowOf k R w v2 xs → WfRow P xs →
  Calls Try.prog F #[v1, v2] w fun e w' => e = .returned (.bool true) ∧ Below w.heap.size w w'

end Go.Proofs.Ytkfpfijblflcfaa
