/- What the laws of expressions hold in hand. -/
import Derived.Test.YthjmbbpakidkdaaXk4
import Derived.Test.YthjmbbpakidkdaaXRead
namespace Go.Proofs.Ythjmbbpakidkdaa
open Go.RowKit
set_option linter.unusedVariables false

/-- The law's own argument's box, and what the model said. -/
structure VSt (w V : World) (ob : Array Value) (v1 : Value) (l : List ByteArray) (lo : Nat) : Prop where
  box : V.heap[w.heap.size]? = some (.cells ob 66 (0, 0))
  r1 : StrRow V w.heap.size v1 l
  low : ∀ g, v1.ownBlock = some g → g < lo
  bel : Below w.heap.size w V
  lim : w.heap.size < lo

theorem VSt.later {w V V' : World} {ob : Array Value} {v1 : Value} {l : List ByteArray} {lo : Nat} (h : VSt w V ob v1 l lo) (hb : Below V.heap.size V V') : VSt w V' ob v1 l lo :=
  ⟨(hb.block _ (lt_row h.box)).trans h.box, h.r1.kept fun g hg => hb.block g (h.r1.blk g hg).2, h.low, h.bel.trans (hb.mono h.bel.size), h.lim⟩

theorem VSt.wrote {w V V' : World} {ob : Array Value} {v1 : Value} {l : List ByteArray} {lo : Nat} {fp : List Nat} (h : VSt w V ob v1 l lo) (hb : Wrote fp V V') (hf : ∀ g ∈ fp, lo ≤ g) : VSt w V' ob v1 l lo := by
  have hn : ∀ g, g < lo → g ∉ fp := fun g hg hm => by have := hf g hm; omega
  have hl := h.lim
  refine ⟨(hb.block _ (lt_row h.box) (hn _ h.lim)).trans h.box, h.r1.kept fun g hg => hb.block g (h.r1.blk g hg).2 (hn g (h.low g hg)), h.low, ?_, h.lim⟩
  exact h.bel.trans ⟨hb.os, hb.tape, hb.output, hb.size, fun g hg => hb.block g (Nat.lt_of_lt_of_le hg h.bel.size) (hn g (by omega))⟩

theorem five_at {V : World} {A : Nat} {x0 x1 x2 x3 x4 : Value} {t : TypeId} (h : V.heap[A]? = some (.cells #[x0, x1, x2, x3, x4] t (0, 0))) : V.cell? ⟨A, 0, none⟩ = some x0 ∧ V.cell? ⟨A, 1, none⟩ = some x1 ∧ V.cell? ⟨A, 2, none⟩ = some x2 ∧ V.cell? ⟨A, 3, none⟩ = some x3 ∧ V.cell? ⟨A, 4, none⟩ = some x4 :=
  ⟨by rw [cell_of_row V _ 0 _ _ _ h]; rfl, by rw [cell_of_row V _ 1 _ _ _ h]; rfl, by rw [cell_of_row V _ 2 _ _ _ h]; rfl, by rw [cell_of_row V _ 3 _ _ _ h]; rfl, by rw [cell_of_row V _ 4 _ _ _ h]; rfl⟩

end Go.Proofs.Ythjmbbpakidkdaa
