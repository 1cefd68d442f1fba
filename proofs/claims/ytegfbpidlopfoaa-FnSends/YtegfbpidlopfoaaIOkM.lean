/- The program's checks of an atom and of a term's shape: they tell what is right. -/
import Derived.Test.YtegfbpidlopfoaaTmM
import Derived.Test.YtegfbpidlopfoaaFormM
namespace Go.Proofs.Ytegfbpidlopfoaa
open Go.RowKit
set_option linter.unusedVariables false

/-- A byte that an atom may have behind its first. -/
def atB (x : Int) : Bool := decide (97 ≤ x ∧ x ≤ 122) || decide (48 ≤ x ∧ x ≤ 57) || x == 95

theorem atB_iff (x : Int) : atB x = true ↔ (97 ≤ x ∧ x ≤ 122) ∨ (48 ≤ x ∧ x ≤ 57) ∨ x = 95 := by
  simp only [atB, Bool.or_eq_true, decide_eq_true_eq, beq_iff_eq, or_assoc]

/-- What a term is within. -/
def formV (k n : Int) (s : ByteArray) (l : Value) : Value :=
  if k = 1 then .iface 71 (.int .i64 n) else if k = 2 then .iface 73 (.string s) else if k = 3 then .iface 72 (.int .i64 n)
  else if k = 4 then .iface 75 l else if k = 5 then .iface 76 l else .nilIface

set_option maxHeartbeats 1000000 in
theorem formOf_any (k n : Int) (s : ByteArray) (a : Option Addr) (len c : Nat) (w : World) :
    Calls Try.prog 29 #[.agg #[.int .i64 k, .int .i64 n, .string s, .slice a len c]] w fun e w' => e = .returned (formV k n s (.slice a len c)) ∧ Below w.heap.size w w' := by
  have hA : Below w.heap.size w (w.alloc (.cells #[.int .i64 k, .int .i64 n, .string s, .slice a len c] 26)) := (Below.refl _ _).alloc (Nat.le_refl _) _
  by_cases h1 : k = 1
  · subst h1
    go_enter Try.func29, Try.ntmps29
    go_wp2_with fail
    go_ret
    exact ⟨rfl, hA⟩
  by_cases h2 : k = 2
  · subst h2
    go_enter Try.func29, Try.ntmps29
    go_wp2_with fail
    go_ret
    exact ⟨rfl, hA⟩
  by_cases h3 : k = 3
  · subst h3
    go_enter Try.func29, Try.ntmps29
    go_wp2_with fail
    go_ret
    exact ⟨rfl, hA⟩
  by_cases h4 : k = 4
  · subst h4
    go_enter Try.func29, Try.ntmps29
    go_wp2_with fail
    go_ret
    exact ⟨rfl, hA⟩
  by_cases h5 : k = 5
  · subst h5
    go_enter Try.func29, Try.ntmps29
    go_wp2_with fail
    go_ret
    exact ⟨rfl, hA⟩
  have HF : Hid (formV k n s (.slice a len c) = .nilIface) := by
    show _ = _
    unfold formV
    rw [if_neg h1, if_neg h2, if_neg h3, if_neg h4, if_neg h5]
  have e1 : (k == 1) = false := by simp [h1]
  have e2 : (k == 2) = false := by simp [h2]
  have e3 : (k == 3) = false := by simp [h3]
  have e4 : (k == 4) = false := by simp [h4]
  have e5 : (k == 5) = false := by simp [h5]
  rw [HF.out]
  clear h1 h2 h3 h4 h5 HF
  go_enter Try.func29, Try.ntmps29
  go_wp2_with fail
  go_ret
  exact ⟨rfl, hA⟩

end Go.Proofs.Ytegfbpidlopfoaa

/- The program's check of a whole term: it tells what is right. -/
namespace Go.Proofs.Ytegfbpidlopfoaa
open Go.RowKit
set_option linter.unusedVariables false

/-- Only block p was written; new ones may have come. -/
structure Turned (p : Nat) (w w' : World) : Prop where
  os : w'.os = w.os
  tape : w'.tape = w.tape
  output : w'.output = w.output
  size : w.heap.size ≤ w'.heap.size
  block : ∀ g, g < w.heap.size → g ≠ p → w'.heap[g]? = w.heap[g]?

theorem Turned.refl (p : Nat) (w : World) : Turned p w w := ⟨rfl, rfl, rfl, Nat.le_refl _, fun _ _ _ => rfl⟩
theorem Turned.trans {p : Nat} {a b c : World} (h : Turned p a b) (k : Turned p b c) : Turned p a c :=
  ⟨k.os.trans h.os, k.tape.trans h.tape, k.output.trans h.output, Nat.le_trans h.size k.size, fun g hg hn => (k.block g (Nat.lt_of_lt_of_le hg h.size) hn).trans (h.block g hg hn)⟩
theorem Turned.of_below {p : Nat} {a b : World} (h : Below a.heap.size a b) : Turned p a b := ⟨h.os, h.tape, h.output, h.size, fun g hg _ => h.block g hg⟩
theorem Turned.of_set (w : World) (g o : Nat) (v : Value) : Turned g w (w.setCell ⟨g, o, none⟩ v) :=
  ⟨rfl, rfl, rfl, by simp, fun j _ hn => heap_setCell_other w ⟨g, o, none⟩ j v hn⟩
/-- What lies below the block is as it was. -/
theorem Turned.below {p B : Nat} {a b : World} (h : Turned p a b) (hp : B ≤ p) (hB : B ≤ a.heap.size) : Below B a b := ⟨h.os, h.tape, h.output, h.size, fun g hg => h.block g (by omega) (by omega)⟩

/-- The contract of the check of a term, at a depth, with a count of how many may be left. -/
def FitC (f d : Nat) : Prop := ∀ (w0 : World) (k n : Int) (s : ByteArray) (l : Value) (ts : List (Tm d)) (deep L : Int) (p : Nat) (w : World), RdL d w0 l ts → WfL d ts → s.size ≤ 9223372036854775807 →
  Below w0.heap.size w0 w → w0.heap.size ≤ p → w.heap[p]? = some (.cells #[.int .i64 L] 3 (0, 0)) → 1 ≤ deep → deep ≤ 1000 → 0 ≤ L → L ≤ 1000000 →
  Calls Try.prog f #[.agg #[.int .i64 k, .int .i64 n, .string s, l], .int .i64 deep, .pointer (some ⟨p, 0, none⟩)] w fun e w' => ∃ b : Bool, e = .returned (.bool b) ∧ (b = true ↔ Right d k n s ts (9 - deep) L) ∧
    (b = true → w'.heap[p]? = some (.cells #[.int .i64 (L - (1 + cntL d ts : Nat))] 3 (0, 0))) ∧ Turned p w w'

end Go.Proofs.Ytegfbpidlopfoaa
