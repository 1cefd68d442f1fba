/- The law's own copy and comparison of expressions: the walks. -/
import Derived.Test.YtegfbpidlopfoaaTmM
namespace Go.Proofs.Ytegfbpidlopfoaa
open Go.RowKit
set_option linter.unusedVariables false

/-- Of all that was there only the blocks of a stretch are turned. -/
structure Kept (p q : Nat) (w w' : World) : Prop where
  os : w'.os = w.os
  tape : w'.tape = w.tape
  output : w'.output = w.output
  size : w.heap.size ≤ w'.heap.size
  block : ∀ g, g < w.heap.size → g < p ∨ q ≤ g → w'.heap[g]? = w.heap[g]?

theorem Kept.refl (p q : Nat) (w : World) : Kept p q w w := ⟨rfl, rfl, rfl, Nat.le_refl _, fun _ _ _ => rfl⟩
theorem Kept.trans {p q : Nat} {a b c : World} (h : Kept p q a b) (k : Kept p q b c) : Kept p q a c :=
  ⟨k.os.trans h.os, k.tape.trans h.tape, k.output.trans h.output, Nat.le_trans h.size k.size, fun g h1 h2 => (k.block g (Nat.lt_of_lt_of_le h1 h.size) h2).trans (h.block g h1 h2)⟩
theorem Kept.drew {p q : Nat} {a w : World} (h : Kept p q a w) : Kept p q a w.drew := h.trans ⟨rfl, rfl, rfl, Nat.le_refl _, fun _ _ _ => rfl⟩
theorem Kept.set {p q : Nat} {a w : World} {g o : Nat} {v : Value} (hg : p ≤ g ∧ g < q) (h : Kept p q a w) : Kept p q a (w.setCell ⟨g, o, none⟩ v) := by
  have b := (Below.refl g w).setCell (p := ⟨g, o, none⟩) (Nat.le_refl g) v
  exact h.trans ⟨b.os, b.tape, b.output, b.size, fun x h1 h2 => heap_setCell_other _ _ _ _ (by simp; omega)⟩
theorem Kept.of_below {p q : Nat} {a b : World} (h : Below a.heap.size a b) : Kept p q a b := ⟨h.os, h.tape, h.output, h.size, fun g hg _ => h.block g hg⟩
theorem Kept.below {p q B : Nat} {a b : World} (h : Kept p q a b) (hp : B ≤ p) (hB : B ≤ a.heap.size) : Below B a b := ⟨h.os, h.tape, h.output, h.size, fun g hg => h.block g (by omega) (.inl (by omega))⟩

theorem heap_three (w : World) (o1 o2 o3 : Obj) : (((w.alloc o1).alloc o2).alloc o3).heap[w.heap.size]? = some o1 ∧ (((w.alloc o1).alloc o2).alloc o3).heap[w.heap.size + 1]? = some o2 ∧ (((w.alloc o1).alloc o2).alloc o3).heap[w.heap.size + 1 + 1]? = some o3 := by
  have h1 := heap_alloc_new w o1
  have h2 := heap_alloc_new (w.alloc o1) o2
  have h3 := heap_alloc_new ((w.alloc o1).alloc o2) o3
  have z1 : (w.alloc o1).heap.size = w.heap.size + 1 := by simp
  have z2 : ((w.alloc o1).alloc o2).heap.size = w.heap.size + 1 + 1 := by simp
  rw [z1] at h2
  rw [z2] at h3
  refine ⟨?_, ?_, h3⟩
  · rw [Below.heap_alloc _ _ _ (by omega), Below.heap_alloc _ _ _ (by omega)]; exact h1
  · rw [Below.heap_alloc _ _ _ (by omega)]; exact h2

theorem fresh_two {B : Nat} {w1 V1 w2 Z : World} {f g : List Nat} {m : Nat} (h1 : Fresh m w1 f) (h2 : Fresh V1.heap.size w2 g) (z1 : w1.heap.size ≤ V1.heap.size) (z2 : V1.heap.size ≤ w2.heap.size) (z3 : w2.heap.size ≤ Z.heap.size) (hB : B ≤ m) (hV : B ≤ V1.heap.size) : Fresh B Z (f ++ g) := by
  refine ⟨List.nodup_append.2 ⟨h1.1, h2.1, fun a ha b hb e => by have := (h1.2 a ha).2; have := (h2.2 b hb).1; omega⟩, fun x hx => ?_⟩
  rcases List.mem_append.1 hx with hx | hx
  · have := h1.2 x hx; omega
  · have := h2.2 x hx; omega

end Go.Proofs.Ytegfbpidlopfoaa

/- The law's own copy and comparison of expressions: the rest of the walks. -/
namespace Go.Proofs.Ytegfbpidlopfoaa
open Go.RowKit
set_option linter.unusedVariables false

end Go.Proofs.Ytegfbpidlopfoaa
