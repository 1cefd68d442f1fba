/- The law's own marks on texts; the program's names of an expression, as the law calls for them. -/
import Derived.Test.YtgeedoeaepcmcaaDoorXk3M
import Derived.Test.YtgeedoeaepcmcaaDoorNm2M
import Derived.Test.YtgeedoeaepcmcaaDoorRowClauseM
namespace Go.Proofs.YtgeedoeaepcmcaaDoor
open Go.RowKit
set_option linter.unusedVariables false

theorem varsOf_any (d : Nat) (vs : List Value) (e : Ex d) (fp : List Nat) (w : World) (hown : ExO d w vs e fp) (hnd : fp.Nodup) (hlt : ∀ g ∈ fp, g < w.heap.size) (hz : szX d e ≤ 1048576) :
    Calls Tryd.prog 48 #[.agg vs.toArray] w fun r w' => ∃ v, r = .returned v ∧ Hid (StrRow w' w.heap.size v (vars d e)) ∧ Below w.heap.size w w' := by
  obtain ⟨i0, i1, s2, a3, l3, c3, a4, l4, c4, rfl⟩ := ExO.shape d w vs e fp hown
  obtain ⟨W, hW⟩ : ∃ W, W = w.alloc (Obj.cells #[.int .i64 i0, .int .i64 i1, .string s2, .slice a3 l3 c3, .slice a4 l4 c4] 31) := ⟨_, rfl⟩
  have hA : Below w.heap.size w W := by rw [hW]; exact (Below.refl _ _).alloc (Nat.le_refl _) _
  have hN := namesIn_any d _ e fp 33554432 w hown hnd hlt hz
  have hN1 := namesIn_any d _ e fp 33554432 W (ExO.lasts d _ _ _ _ _ hown fun g hg => hA.block g (hlt g hg)) hnd (fun g hg => Nat.lt_of_lt_of_le (hlt g hg) hA.size) hz
  rw [hW] at hN1
  have HW : Hid (W = _) := hW
  have HA : Hid (Below w.heap.size w W) := hA
  clear hown hnd hlt hz hW hA
  go_enter Tryd.func48, Tryd.ntmps48
  go_wp2_with fail
  first
    | (refine hN.mono ?_
       rintro r w1 ⟨v, rfl, HR, hb⟩
       go_wp2_with fail
       go_ret
       exact ⟨_, rfl, HR, hb⟩)
    | (refine hN1.mono ?_
       rintro r w1 ⟨v, rfl, HR, hb⟩
       rw [← HW.out] at hb HR
       have HR2 : Hid (StrRow w1 w.heap.size v (vars d e)) := HR.out.low HA.out.size
       go_wp2_with fail
       go_ret
       exact ⟨_, rfl, HR2, HA.out.trans (hb.mono HA.out.size)⟩)

end Go.Proofs.YtgeedoeaepcmcaaDoor

/- What the laws of expressions hold in hand. -/
namespace Go.Proofs.YtgeedoeaepcmcaaDoor
open Go.RowKit
set_option linter.unusedVariables false

/-- The law's own argument's box, and what the model said. -/
structure VSt (w V : World) (ob : Array Value) (v1 : Value) (l : List ByteArray) (lo : Nat) : Prop where
  box : V.heap[w.heap.size]? = some (.cells ob 25 (0, 0))
  r1 : StrRow V w.heap.size v1 l
  low : ∀ g, v1.ownBlock = some g → g < lo
  bel : Below w.heap.size w V
  lim : w.heap.size < lo

theorem VSt.later {w V V' : World} {ob : Array Value} {v1 : Value} {l : List ByteArray} {lo : Nat} (h : VSt w V ob v1 l lo) (hb : Below V.heap.size V V') : VSt w V' ob v1 l lo :=
  ⟨(hb.block _ (lt_row h.box)).trans h.box, h.r1.kept fun g hg => hb.block g (h.r1.blk g hg).2, h.low, h.bel.trans (hb.mono h.bel.size), h.lim⟩

theorem VSt.wrote {w V V' : World} {ob : Array Value} {v1 : Value} {l : List ByteArray} {lo : Nat} {fp : List Nat} (h : VSt w V ob v1 l lo) (hb : Wrote fp V V') (hf : ∀ g ∈ fp, lo ≤ g) : VSt w V' ob v1 l lo := by
  have hn : ∀ g, g < lo → g ∉ fp := fun g hg hm => by have := hf g hm; omega
  have hl := h.lim
  refine ⟨(hb.block _ (lt_row h.box) (hn _ h.lim)).trans h.box, h.r1.kept fun g hg => hb.block g (h.r1.blk g hg).2 (hn g (h.low g hg)), h.low, ?_, h.lim⟩
  exact h.bel.trans ⟨hb.os, hb.tape, hb.output, hb.size, fun g hg => hb.block g (Nat.lt_of_lt_of_le hg h.bel.size) (hn g (by omega))⟩

theorem five_at {V : World} {A : Nat} {x0 x1 x2 x3 x4 : Value} {t : TypeId} (h : V.heap[A]? = some (.cells #[x0, x1, x2, x3, x4] t (0, 0))) : V.cell? ⟨A, 0, none⟩ = some x0 ∧ V.cell? ⟨A, 1, none⟩ = some x1 ∧ V.cell? ⟨A, 2, none⟩ = some x2 ∧ V.cell? ⟨A, 3, none⟩ = some x3 ∧ V.cell? ⟨A, 4, none⟩ = some x4 :=
  ⟨by rw [cell_of_row V _ 0 _ _ _ h]; rfl, by rw [cell_of_row V _ 1 _ _ _ h]; rfl, by rw [cell_of_row V _ 2 _ _ _ h]; rfl, by rw [cell_of_row V _ 3 _ _ _ h]; rfl, by rw [cell_of_row V _ 4 _ _ _ h]; rfl⟩

end Go.Proofs.YtgeedoeaepcmcaaDoor
