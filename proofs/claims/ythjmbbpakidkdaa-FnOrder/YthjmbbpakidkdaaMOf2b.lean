/- A measure is put to another one. -/
import Derived.Test.YthjmbbpakidkdaaMOf2
import Derived.Deep.RegionWith
namespace Go.Proofs.Ythjmbbpakidkdaa
open Go.RowKit
set_option linter.unusedVariables false

set_option maxHeartbeats 4000000 in
/-- A measure is put to another one. -/
theorem add_any (g o : Nat) (vs : Array Value) (c p c2 p2 : Nat) (w : World) (hg : w.heap[g]? = some (.cells vs 187 (0, 0))) (h0 : vs[o]? = some (.int .i64 c)) (h1 : vs[o + 1]? = some (.int .i64 p)) (hc : c ≤ 1099511627776) (hp : p ≤ 1099511627776) (hc2 : c2 ≤ 1099511627776) (hp2 : p2 ≤ 1099511627776) :
    Calls Try.prog 137 #[.pointer (some ⟨g, o, none⟩), .agg #[.int .i64 c2, .int .i64 p2]] w fun e w' => e = .returned (.tuple #[]) ∧ w'.heap[g]? = some (.cells ((vs.setIfInBounds o (.int .i64 (c + (c2 + 1) : Nat))).setIfInBounds (o + 1) (.int .i64 (max p (p2 + 1) : Nat))) 187 (0, 0)) ∧ Turned g w w' := by
  have hgz : g < w.heap.size := Nat.lt_of_not_le fun h => by rw [Array.getElem?_eq_none h] at hg; cases hg
  have c0 : w.cell? ⟨g, o, none⟩ = some (.int .i64 c) := by rw [cell_of_row w _ o _ _ _ hg]; exact h0
  have c1 : w.cell? ⟨g, o + 1, none⟩ = some (.int .i64 p) := by rw [cell_of_row w _ (o + 1) _ _ _ hg]; exact h1
  have y0 : w.frozen? ⟨g, o, none⟩ = false := frozen_of_row w _ _ _ _ hg
  have y1 : w.frozen? ⟨g, o + 1, none⟩ = false := frozen_of_row w _ _ _ _ hg
  have HP : Hid (∀ (x y : Int) (W : World), 0 ≤ x → x ≤ 1125899906842624 → 0 ≤ y → y ≤ 1125899906842624 → Calls Try.prog 182 #[.int .i64 x, .int .i64 y] W fun e w' => e = .returned (.int .i64 (x + y)) ∧ W = w') := fun x y W a b c d => plus_any x y W a b c d
  go_enter Try.func137, Try.ntmps137
  go_wp2_with fail
  go_region_with (go_at_call 182; refine (HP.out _ _ _ (by omega) (by omega) (by omega) (by omega)).mono ?_; rintro e w' ⟨rfl, rfl⟩)
  all_goals
    obtain ⟨X, hX⟩ : ∃ X, X = ((w.setCell ⟨g, o, none⟩ (.int .i64 (↑c + (↑c2 + 1)))).alloc (.cells #[.int .i64 ↑c2, .int .i64 ↑p2] 100)).drew := ⟨_, rfl⟩
    rw [← hX]
    have hXg : X.heap[g]? = some (.cells (vs.setIfInBounds o (.int .i64 (↑c + (↑c2 + 1)))) 187 (0, 0)) := by
      rw [hX]
      exact (Below.heap_alloc _ _ g (by simp; exact hgz)).trans (heap_setCell_same w g o _ _ _ hg)
    have hXl : X.heap[w.heap.size]? = some (.cells #[.int .i64 ↑c2, .int .i64 ↑p2] 100 (0, 0)) := by
      rw [hX]
      have := heap_alloc_new (w.setCell ⟨g, o, none⟩ (.int .i64 (↑c + (↑c2 + 1)))) (.cells #[.int .i64 ↑c2, .int .i64 ↑p2] 100)
      rw [show (w.setCell ⟨g, o, none⟩ (.int .i64 (↑c + (↑c2 + 1)))).heap.size = w.heap.size from by simp] at this
      exact this
    have hT : Turned g w X := by
      rw [hX]
      exact (Turned.of_set w g o _).trans (Turned.of_below (((Below.refl _ _).alloc (Nat.le_refl _) _).drew))
    have d1 : X.cell? ⟨g, o + 1, none⟩ = some (.int .i64 p) := by
      rw [cell_of_row X _ (o + 1) _ _ _ hXg, Array.getElem?_setIfInBounds_ne (by omega)]; exact h1
    have l1 : X.cell? ⟨w.heap.size, 1, none⟩ = some (.int .i64 p2) := by rw [cell_of_row X _ 1 _ _ _ hXl]; rfl
    have z1 : X.frozen? ⟨g, o + 1, none⟩ = false := frozen_of_row X _ _ _ _ hXg
    have HF : Hid (∀ Z : World, Below X.heap.size (X.setCell ⟨g, o + 1, none⟩ (.int .i64 (if (p : Int) < p2 + 1 then (p2 : Int) + 1 else p))) Z → Z.heap[g]? = some (.cells ((vs.setIfInBounds o (.int .i64 (c + (c2 + 1) : Nat))).setIfInBounds (o + 1) (.int .i64 (max p (p2 + 1) : Nat))) 187 (0, 0)) ∧ Turned g w Z) := fun Z hZ => by
      have hz : g < X.heap.size := by have := hT.size; omega
      have e : (if (p : Int) < p2 + 1 then (p2 : Int) + 1 else p) = ((max p (p2 + 1) : Nat) : Int) := by split <;> omega
      have e2 : ((c : Int) + ((c2 : Int) + 1)) = ((c + (c2 + 1) : Nat) : Int) := by omega
      refine ⟨?_, hT.trans ((Turned.of_set X g (o + 1) _).trans (Turned.of_below (by simpa using hZ)))⟩
      rw [hZ.block g hz, heap_setCell_same X g (o + 1) _ _ _ hXg, e, e2]
    clear hX hXg hXl hT c0 c1 y0 y1 hg h0 h1
    go_wp2_with fail
    go_region_with (go_at_call 182; refine (HP.out _ _ _ (by omega) (by omega) (by omega) (by omega)).mono ?_; rintro e w' ⟨rfl, rfl⟩)
    all_goals
      go_end0
      exact ⟨rfl, HF.out _ ((Below.refl _ _).drew)⟩

end Go.Proofs.Ythjmbbpakidkdaa
