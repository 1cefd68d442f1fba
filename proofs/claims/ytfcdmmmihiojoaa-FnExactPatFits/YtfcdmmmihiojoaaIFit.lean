/- The program's check of a whole term: it tells what is right. -/
import Derived.Test.YtfcdmmmihiojoaaIOk
namespace Go.Proofs.Ytfcdmmmihiojoaa
open Go.RowKit
set_option linter.unusedVariables false

/-- Only block p was written; new ones may have come. -/
structure Turned (p : Nat) (w w' : World) : Prop where
  os : w'.os = w.os
  tape : w'.tape = w.tape
  output : w'.output = w.output
  size : w.heap.size ≤ w'.heap.size
  block : ∀ g, g < w.heap.size → g ≠ p → w'.heap[g]? = w.heap[g]?

theorem Turned.refl (p : Nat) (w : World) : Turned p w w := ⟨rfl, rfl, rfl, Nat.le_refl _, fun _ _ _ => rfl⟩
theorem Turned.trans {p : Nat} {a b c : World} (h : Turned p a b) (k : Turned p b c) : Turned p a c :=
  ⟨k.os.trans h.os, k.tape.trans h.tape, k.output.trans h.output, Nat.le_trans h.size k.size, fun g hg hn => (k.block g (Nat.lt_of_lt_of_le hg h.size) hn).trans (h.block g hg hn)⟩
theorem Turned.of_below {p : Nat} {a b : World} (h : Below a.heap.size a b) : Turned p a b := ⟨h.os, h.tape, h.output, h.size, fun g hg _ => h.block g hg⟩
theorem Turned.of_set (w : World) (g o : Nat) (v : Value) : Turned g w (w.setCell ⟨g, o, none⟩ v) :=
  ⟨rfl, rfl, rfl, by simp, fun j _ hn => heap_setCell_other w ⟨g, o, none⟩ j v hn⟩
/-- What lies below the block is as it was. -/
theorem Turned.below {p B : Nat} {a b : World} (h : Turned p a b) (hp : B ≤ p) (hB : B ≤ a.heap.size) : Below B a b := ⟨h.os, h.tape, h.output, h.size, fun g hg => h.block g (by omega) (by omega)⟩

/-- The contract of the check of a term, at a depth, with a count of how many may be left. -/
def FitC (f d : Nat) : Prop := ∀ (w0 : World) (k n : Int) (s : ByteArray) (l : Value) (ts : List (Tm d)) (deep L : Int) (p : Nat) (w : World), RdL d w0 l ts → WfL d ts → s.size ≤ 9223372036854775807 →
  Below w0.heap.size w0 w → w0.heap.size ≤ p → w.heap[p]? = some (.cells #[.int .i64 L] 3 (0, 0)) → 1 ≤ deep → deep ≤ 1000 → 0 ≤ L → L ≤ 1000000 →
  Calls Try.prog f #[.agg #[.int .i64 k, .int .i64 n, .string s, l], .int .i64 deep, .pointer (some ⟨p, 0, none⟩)] w fun e w' => ∃ b : Bool, e = .returned (.bool b) ∧ (b = true ↔ Right d k n s ts (9 - deep) L) ∧
    (b = true → w'.heap[p]? = some (.cells #[.int .i64 (L - (1 + cntL d ts : Nat))] 3 (0, 0))) ∧ Turned p w w'

end Go.Proofs.Ytfcdmmmihiojoaa
