/- What is known of a list. -/
import Derived.Test.YthjmbbpakidkdaaMOf2
import Derived.Deep.RegionWith
namespace Go.Proofs.Ythjmbbpakidkdaa
open Go.RowKit
set_option linter.unusedVariables false

/-- What is known of a list. -/
theorem measureKnown_empty (a : Option Addr) (c : Nat) (m : Value) (w : World) : Calls Try.prog 136 #[m, .slice a 0 c] w fun e w' => e = .returned (.tuple #[.agg #[.int .i64 0, .int .i64 0], .bool true]) ∧ Below w.heap.size w w' := by
  go_enter Try.func136, Try.ntmps136
  go_wp2_with fail
  refine bodyPost_ret (v := .tuple #[.agg #[.int .i64 0, .int .i64 0], .bool true]) (by first | (simp [results, Try.results136, go_sem]; done) | (simp [results, Try.results136, go_sem]; rfl)) rfl ⟨rfl, ?_⟩
  exact (Below.refl _ _).alloc (Nat.le_refl _) _

theorem measureKnown_any (b o n c : Nat) (B : Nat) (f : Addr → Int → Option Value) (w : World) (hn : 0 < n) (hn1 : n ≤ 9223372036854775807) (hM : SMap w B f) (hp : Plain w ⟨b, o, none⟩) (x y : Int) (k : Bool) (hf : (f ⟨b, o, none⟩ n).getD (.agg #[.int .i64 0, .int .i64 0]) = .agg #[.int .i64 x, .int .i64 y]) (hk : (f ⟨b, o, none⟩ n).isSome = k) :
    Calls Try.prog 136 #[.map (some B), .slice (some ⟨b, o, none⟩) n c] w fun e w' => e = .returned (.tuple #[.agg #[.int .i64 x, .int .i64 y], .bool k]) ∧ Below w.heap.size w w' := by
  have hB := hM.lt
  have HS : Hid (∀ W : World, Calls Try.prog 134 #[.slice (some ⟨b, o, none⟩) n c] W fun e w' => e = .returned (.agg #[.pointer (some ⟨b, o, none⟩), .int .i64 n]) ∧ Below W.heap.size W w') := fun W => spotOf_any b o n c W hn hn1
  have HM : Hid (∀ W : World, Below w.heap.size w W → SMap W B f ∧ Plain W ⟨b, o, none⟩) := fun W hW => ⟨hM.kept (hW.block B hB) (fun x n v _ hx => hx.later hW), hp.later hW⟩
  clear hM hp
  go_enter Try.func136, Try.ntmps136
  go_wp2_with fail
  refine (HS.out _).mono ?_
  rintro e w1 ⟨rfl, hb⟩
  have hB1 : Below w.heap.size w w1 := ((Below.refl _ w).alloc (Nat.le_refl _) _).trans (hb.mono (by simp))
  have hz1 : w.heap.size < w1.heap.size := Nat.lt_of_lt_of_le (by simp) hb.size
  have hres : w1.heap[w.heap.size]? = some (.cells #[.int .i64 0, .int .i64 0] 100 (0, 0)) := (hb.block _ (by simp)).trans (heap_alloc_new w _)
  have r0 : w1.cell? ⟨w.heap.size, 0, none⟩ = some (.int .i64 0) := by rw [cell_of_row w1 _ 0 _ _ _ hres]; rfl
  have r1 : w1.cell? ⟨w.heap.size, 1, none⟩ = some (.int .i64 0) := by rw [cell_of_row w1 _ 1 _ _ _ hres]; rfl
  have q0 : w1.frozen? ⟨w.heap.size, 0, none⟩ = false := frozen_of_row w1 _ _ _ _ hres
  have q1 : w1.frozen? ⟨w.heap.size, 1, none⟩ = false := frozen_of_row w1 _ _ _ _ hres
  have hres2 := heap_setCell_same (w1.setCell ⟨w.heap.size, 0, none⟩ (.int .i64 x)) w.heap.size 1 _ _ (.int .i64 y) (heap_setCell_same w1 w.heap.size 0 _ _ (.int .i64 x) hres)
  have hres3 := (Below.heap_alloc ((w1.setCell ⟨w.heap.size, 0, none⟩ (.int .i64 x)).setCell ⟨w.heap.size, 1, none⟩ (.int .i64 y)) (.cells #[.int .i64 x, .int .i64 y] 100) w.heap.size (by simp; exact hz1)).trans hres2
  have s0 : (((w1.setCell ⟨w.heap.size, 0, none⟩ (.int .i64 x)).setCell ⟨w.heap.size, 1, none⟩ (.int .i64 y)).alloc (.cells #[.int .i64 x, .int .i64 y] 100)).cell? ⟨w.heap.size, 0, none⟩ = some (.int .i64 x) := by rw [cell_of_row _ _ 0 _ _ _ hres3]; rfl
  have s1 : (((w1.setCell ⟨w.heap.size, 0, none⟩ (.int .i64 x)).setCell ⟨w.heap.size, 1, none⟩ (.int .i64 y)).alloc (.cells #[.int .i64 x, .int .i64 y] 100)).cell? ⟨w.heap.size, 1, none⟩ = some (.int .i64 y) := by rw [cell_of_row _ _ 1 _ _ _ hres3]; rfl
  have HBZ : Hid (Below w.heap.size w (((w1.setCell ⟨w.heap.size, 0, none⟩ (.int .i64 x)).setCell ⟨w.heap.size, 1, none⟩ (.int .i64 y)).alloc (.cells #[.int .i64 x, .int .i64 y] 100))) := hB1.trans ((((Turned.of_set w1 w.heap.size 0 _).trans (Turned.of_set _ w.heap.size 1 _)).trans (Turned.of_below ((Below.refl _ _).alloc (Nat.le_refl _) _))).below (Nat.le_refl _) (by omega))
  have S0 : Hid (_ = _) := s0
  have S1 : Hid (_ = _) := s1
  clear hb hres hres2 hres3 s0 s1
  obtain ⟨hM1, hp1⟩ := HM.out _ hB1
  have hz : ∀ W : World, (zeroValue 100).run Try.prog W = .ok (.agg #[.int .i64 0, .int .i64 0]) W := fun W => Try.zeroValue100 W
  go_wp2_with (first | (at_lookup; refine wpList_look_spot _ rfl _ _ 185 rfl 182 100 spotTerm Try.underlying185 (hz _) B f rfl hM1 _ _ rfl hp1 ?_; rw [hf, hk]) | go_in)
  have s0 := S0.out
  have s1 := S1.out
  refine bodyPost_ret (v := .tuple #[.agg #[.int .i64 x, .int .i64 y], .bool k]) (by first | (simp [results, Try.results136, go_sem, s0, s1]; done) | (simp [results, Try.results136, go_sem, s0, s1]; rfl)) rfl ⟨rfl, HBZ.out⟩

end Go.Proofs.Ythjmbbpakidkdaa
