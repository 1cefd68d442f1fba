/- A worker copied by the model; the model's PutWord. -/
import Derived.Test.YtfachfimdenapaaDtWorkerM
import Derived.Test.YtfachfimdenapaaPw5M
import Derived.Test.YtfachfimdenapaaRs9M
import Derived.Test.YtfachfimdenapaaRLawM
namespace Go.Proofs.Ytfachfimdenapaa
open Go.RowKit
set_option linter.unusedVariables false

/-- What the copy is. -/
def CwRes {d : Nat} (x : DWorker d) (w : World) (e : Ending) (w' : World) : Prop := ∃ (b7 b8 : Option Addr) (m7 k7 m8 k8 B2 : Nat) (f1 f2 : List Nat), e = .returned (.agg #[.int .i64 x.Pid, .string x.Name, .string x.Mod, .int .i64 x.No, .int .i64 x.State.K, .int .i64 x.State.N, .string x.State.S, .slice b7 m7 k7, .slice b8 m8 k8]) ∧ Hid (OwnL d w' (.slice b7 m7 k7) x.State.L f1 ∧ (∀ g ∈ f1, w.heap.size ≤ g ∧ g < B2) ∧ Made (d + 1) B2 w' (.slice b8 m8 k8) x.Box f2 ∧ w.heap.size ≤ B2 ∧ B2 ≤ w'.heap.size) ∧ Below w.heap.size w w'

set_option maxRecDepth 100000 in
set_option maxHeartbeats 4000000 in
theorem l13Copy_any (d : Nat) (x : DWorker d) (a7 a8 : Option Addr) (l7 c7 l8 c8 : Nat) (w : World) (h7 : RdL d w (.slice a7 l7 c7) x.State.L) (h8 : RdL (d + 1) w (.slice a8 l8 c8) x.Box) (hw : WfWorker d x) (hf7 : FewL d x.State.L) (hf8 : FewL (d + 1) x.Box) :
    Calls Try.prog 33 #[(.agg #[.int .i64 x.Pid, .string x.Name, .string x.Mod, .int .i64 x.No, .int .i64 x.State.K, .int .i64 x.State.N, .string x.State.S, .slice a7 l7 c7, .slice a8 l8 c8])] w fun e w' => CwRes x w e w' := by
  obtain ⟨B, hB⟩ : ∃ B, w.heap.size = B := ⟨_, rfl⟩
  obtain ⟨ua, uc, hua⟩ := h8.len
  simp only [Value.slice.injEq] at hua
  have hbl : x.Box.length = l8 := hua.2.1.symm
  obtain ⟨W1, hW1⟩ : ∃ W, W = w.alloc (.cells #[.int .i64 x.Pid, .string x.Name, .string x.Mod, .int .i64 x.No, .int .i64 x.State.K, .int .i64 x.State.N, .string x.State.S, .slice a7 l7 c7, .slice a8 l8 c8] 33) := ⟨_, rfl⟩
  obtain ⟨W2, hW2⟩ : ∃ W, W = W1.alloc (.cells #[.int .i64 0, .string ⟨#[]⟩, .string ⟨#[]⟩, .int .i64 0, .int .i64 0, .int .i64 0, .string ⟨#[]⟩, .slice none 0 0, .slice none 0 0] 33) := ⟨_, rfl⟩
  have s1 : W1.heap.size = B + 1 := by rw [hW1, ← hB]; simp
  have s2 : W2.heap.size = B + 1 + 1 := by rw [hW2]; simp [s1]
  have b1 : Below w.heap.size w W1 := by rw [hW1]; exact (Below.refl _ _).alloc (Nat.le_refl _) _
  have b2 : Below W1.heap.size W1 W2 := by rw [hW2]; exact (Below.refl _ _).alloc (Nat.le_refl _) _
  have bw : Below w.heap.size w W2 := b1.trans (b2.mono b1.size)
  have nP : W2.heap[B]? = some (.cells #[.int .i64 x.Pid, .string x.Name, .string x.Mod, .int .i64 x.No, .int .i64 x.State.K, .int .i64 x.State.N, .string x.State.S, .slice a7 l7 c7, .slice a8 l8 c8] 33 (0, 0)) := by
    refine (b2.block B (by omega)).trans ?_
    rw [hW1, ← hB]; exact heap_alloc_new w _
  have nZ : W2.heap[B + 1]? = some (.cells #[.int .i64 0, .string ⟨#[]⟩, .string ⟨#[]⟩, .int .i64 0, .int .i64 0, .int .i64 0, .string ⟨#[]⟩, .slice none 0 0, .slice none 0 0] 33 (0, 0)) := by rw [hW2, ← s1]; exact heap_alloc_new W1 _
  have HB : Hid (w.heap.size = B ∧ W2.heap.size = B + 1 + 1 ∧ Below w.heap.size w W2 ∧ W2.heap[B]? = some (.cells #[.int .i64 x.Pid, .string x.Name, .string x.Mod, .int .i64 x.No, .int .i64 x.State.K, .int .i64 x.State.N, .string x.State.S, .slice a7 l7 c7, .slice a8 l8 c8] 33 (0, 0)) ∧ W2.heap[B + 1]? = some (.cells #[.int .i64 0, .string ⟨#[]⟩, .string ⟨#[]⟩, .int .i64 0, .int .i64 0, .int .i64 0, .string ⟨#[]⟩, .slice none 0 0, .slice none 0 0] 33 (0, 0))) := ⟨hB, s2, bw, nP, nZ⟩
  have hC := l2Copy_any d x.State.K x.State.N x.State.S (.slice a7 l7 c7) x.State.L W2 (h7.later bw) hw.2.2.2.2.1.2.2.2 hf7
  have H8 : Hid (RdL (d + 1) w (.slice a8 l8 c8) x.Box ∧ WfL (d + 1) x.Box ∧ FewL (d + 1) x.Box ∧ x.Box.length = l8) := ⟨h8, hw.2.2.2.2.2, hf8, hbl⟩
  have HW2 : Hid (W2 = _) := hW2
  rw [hW2, hW1] at hC
  rw [hW1] at HW2
  clear nP nZ h7 h8 hw hf7 hf8 hbl hua hW1 hW2 s1 s2 b1 b2 bw
  go_enter Try.func33, Try.ntmps33
  go_wp2_with fail
  refine hC.mono ?_
  clear hC
  rw [← HW2.out]
  rintro e w3 ⟨b7, m7, k7, f1, rfl, HM1, hb3⟩
  have n3 := (hb3.block B (by have := HB.out.2.1; omega)).trans HB.out.2.2.2.1
  have z3 := (hb3.block (B + 1) (by have := HB.out.2.1; omega)).trans HB.out.2.2.2.2
  have p0 : w3.cell? ⟨B, 0, none⟩ = some (.int .i64 x.Pid) := by rw [cell_of_row w3 _ 0 _ _ _ n3]; rfl
  have yp0 : w3.frozen? ⟨B, 0, none⟩ = false := frozen_of_row w3 _ 0 _ _ n3
  have p1 : w3.cell? ⟨B, 1, none⟩ = some (.string x.Name) := by rw [cell_of_row w3 _ 1 _ _ _ n3]; rfl
  have yp1 : w3.frozen? ⟨B, 1, none⟩ = false := frozen_of_row w3 _ 1 _ _ n3
  have p2 : w3.cell? ⟨B, 2, none⟩ = some (.string x.Mod) := by rw [cell_of_row w3 _ 2 _ _ _ n3]; rfl
  have yp2 : w3.frozen? ⟨B, 2, none⟩ = false := frozen_of_row w3 _ 2 _ _ n3
  have p3 : w3.cell? ⟨B, 3, none⟩ = some (.int .i64 x.No) := by rw [cell_of_row w3 _ 3 _ _ _ n3]; rfl
  have yp3 : w3.frozen? ⟨B, 3, none⟩ = false := frozen_of_row w3 _ 3 _ _ n3
  have p4 : w3.cell? ⟨B, 4, none⟩ = some (.int .i64 x.State.K) := by rw [cell_of_row w3 _ 4 _ _ _ n3]; rfl
  have yp4 : w3.frozen? ⟨B, 4, none⟩ = false := frozen_of_row w3 _ 4 _ _ n3
  have p5 : w3.cell? ⟨B, 5, none⟩ = some (.int .i64 x.State.N) := by rw [cell_of_row w3 _ 5 _ _ _ n3]; rfl
  have yp5 : w3.frozen? ⟨B, 5, none⟩ = false := frozen_of_row w3 _ 5 _ _ n3
  have p6 : w3.cell? ⟨B, 6, none⟩ = some (.string x.State.S) := by rw [cell_of_row w3 _ 6 _ _ _ n3]; rfl
  have yp6 : w3.frozen? ⟨B, 6, none⟩ = false := frozen_of_row w3 _ 6 _ _ n3
  have p7 : w3.cell? ⟨B, 7, none⟩ = some (.slice a7 l7 c7) := by rw [cell_of_row w3 _ 7 _ _ _ n3]; rfl
  have yp7 : w3.frozen? ⟨B, 7, none⟩ = false := frozen_of_row w3 _ 7 _ _ n3
  have p8 : w3.cell? ⟨B, 8, none⟩ = some (.slice a8 l8 c8) := by rw [cell_of_row w3 _ 8 _ _ _ n3]; rfl
  have yp8 : w3.frozen? ⟨B, 8, none⟩ = false := frozen_of_row w3 _ 8 _ _ n3
  obtain ⟨w4, hw4⟩ : ∃ W, W = ((((w3.setCell ⟨B, 4, none⟩ (.int .i64 x.State.K)).setCell ⟨B, 5, none⟩ (.int .i64 x.State.N)).setCell ⟨B, 6, none⟩ (.string x.State.S)).setCell ⟨B, 7, none⟩ (.slice b7 m7 k7)) := ⟨_, rfl⟩
  have n4 : w4.heap[B]? = some (.cells #[.int .i64 x.Pid, .string x.Name, .string x.Mod, .int .i64 x.No, .int .i64 x.State.K, .int .i64 x.State.N, .string x.State.S, .slice b7 m7 k7, .slice a8 l8 c8] 33 (0, 0)) := by
    rw [hw4]
    have zu4 : (w3.setCell ⟨B, 4, none⟩ (.int .i64 x.State.K)).heap[B]? = some (.cells #[.int .i64 x.Pid, .string x.Name, .string x.Mod, .int .i64 x.No, .int .i64 x.State.K, .int .i64 x.State.N, .string x.State.S, .slice a7 l7 c7, .slice a8 l8 c8] 33 (0, 0)) := heap_setCell_same _ (B) 4 _ _ (.int .i64 x.State.K) n3
    have zu5 : ((w3.setCell ⟨B, 4, none⟩ (.int .i64 x.State.K)).setCell ⟨B, 5, none⟩ (.int .i64 x.State.N)).heap[B]? = some (.cells #[.int .i64 x.Pid, .string x.Name, .string x.Mod, .int .i64 x.No, .int .i64 x.State.K, .int .i64 x.State.N, .string x.State.S, .slice a7 l7 c7, .slice a8 l8 c8] 33 (0, 0)) := heap_setCell_same _ (B) 5 _ _ (.int .i64 x.State.N) zu4
    have zu6 : (((w3.setCell ⟨B, 4, none⟩ (.int .i64 x.State.K)).setCell ⟨B, 5, none⟩ (.int .i64 x.State.N)).setCell ⟨B, 6, none⟩ (.string x.State.S)).heap[B]? = some (.cells #[.int .i64 x.Pid, .string x.Name, .string x.Mod, .int .i64 x.No, .int .i64 x.State.K, .int .i64 x.State.N, .string x.State.S, .slice a7 l7 c7, .slice a8 l8 c8] 33 (0, 0)) := heap_setCell_same _ (B) 6 _ _ (.string x.State.S) zu5
    have zu7 : ((((w3.setCell ⟨B, 4, none⟩ (.int .i64 x.State.K)).setCell ⟨B, 5, none⟩ (.int .i64 x.State.N)).setCell ⟨B, 6, none⟩ (.string x.State.S)).setCell ⟨B, 7, none⟩ (.slice b7 m7 k7)).heap[B]? = some (.cells #[.int .i64 x.Pid, .string x.Name, .string x.Mod, .int .i64 x.No, .int .i64 x.State.K, .int .i64 x.State.N, .string x.State.S, .slice b7 m7 k7, .slice a8 l8 c8] 33 (0, 0)) := heap_setCell_same _ (B) 7 _ _ (.slice b7 m7 k7) zu6
    exact zu7
  have hK4 : Kept B (B + 1) w3 w4 := by
    rw [hw4]
    repeat (first | with_reducible exact Kept.refl _ _ _ | with_reducible refine Kept.drew ?_ | (with_reducible refine Kept.set ?_ ?_; omega))
  have z4 := (hK4.block (B + 1) (lt_row z3) (.inr (by omega))).trans z3
  have bw4 : Below w.heap.size w w4 := by
    have h1 := HB.out.2.2.1.trans (hb3.mono HB.out.2.2.1.size)
    exact h1.trans (hK4.below (by have := HB.out.1; omega) h1.size)
  obtain ⟨x7, y7, t7, g1, e7, o1, r1, _⟩ := HM1.out.own
  have HO : Hid (OwnL d w4 (.slice b7 m7 k7) x.State.L g1 ∧ (∀ g ∈ g1, B + 1 + 1 ≤ g ∧ g < w4.heap.size) ∧ Below w.heap.size w w4) := by
    have hz := HB.out.2.1
    have hz4 := hK4.size
    refine ⟨o1.frame fun g hg => hK4.block g (r1.2 g hg).2 (.inr (by have := (r1.2 g hg).1; omega)), fun g hg => by have := r1.2 g hg; omega, bw4⟩
  have hC := copyAll_any d a8 l8 c8 x.Box w4 (H8.out.1.later bw4) H8.out.2.1 H8.out.2.2.1 H8.out.2.2.2
  rw [hw4] at hC
  have HW4 : Hid (w4 = _) := hw4
  have HN4 : Hid (w4.heap[B]? = some (.cells #[.int .i64 x.Pid, .string x.Name, .string x.Mod, .int .i64 x.No, .int .i64 x.State.K, .int .i64 x.State.N, .string x.State.S, .slice b7 m7 k7, .slice a8 l8 c8] 33 (0, 0)) ∧ w4.heap[B + 1]? = some (.cells #[.int .i64 0, .string ⟨#[]⟩, .string ⟨#[]⟩, .int .i64 0, .int .i64 0, .int .i64 0, .string ⟨#[]⟩, .slice none 0 0, .slice none 0 0] 33 (0, 0))) := ⟨n4, z4⟩
  clear n4 z4 hK4 bw4 o1 r1 e7 HM1 hb3 n3 z3 hw4
  go_wp2_with fail
  refine hC.mono ?_
  clear hC p0 yp0 p1 yp1 p2 yp2 p3 yp3 p4 yp4 p5 yp5 p6 yp6 p7 yp7 p8 yp8
  rw [← HW4.out]
  rintro e w5 ⟨b8, m8, k8, f2, rfl, HM2, hb5⟩
  have n5 := (hb5.block B (lt_row HN4.out.1)).trans HN4.out.1
  have z5 := (hb5.block (B + 1) (lt_row HN4.out.2)).trans HN4.out.2
  have p0 : w5.cell? ⟨B, 0, none⟩ = some (.int .i64 x.Pid) := by rw [cell_of_row w5 _ 0 _ _ _ n5]; rfl
  have yp0 : w5.frozen? ⟨B, 0, none⟩ = false := frozen_of_row w5 _ 0 _ _ n5
  have p1 : w5.cell? ⟨B, 1, none⟩ = some (.string x.Name) := by rw [cell_of_row w5 _ 1 _ _ _ n5]; rfl
  have yp1 : w5.frozen? ⟨B, 1, none⟩ = false := frozen_of_row w5 _ 1 _ _ n5
  have p2 : w5.cell? ⟨B, 2, none⟩ = some (.string x.Mod) := by rw [cell_of_row w5 _ 2 _ _ _ n5]; rfl
  have yp2 : w5.frozen? ⟨B, 2, none⟩ = false := frozen_of_row w5 _ 2 _ _ n5
  have p3 : w5.cell? ⟨B, 3, none⟩ = some (.int .i64 x.No) := by rw [cell_of_row w5 _ 3 _ _ _ n5]; rfl
  have yp3 : w5.frozen? ⟨B, 3, none⟩ = false := frozen_of_row w5 _ 3 _ _ n5
  have p4 : w5.cell? ⟨B, 4, none⟩ = some (.int .i64 x.State.K) := by rw [cell_of_row w5 _ 4 _ _ _ n5]; rfl
  have yp4 : w5.frozen? ⟨B, 4, none⟩ = false := frozen_of_row w5 _ 4 _ _ n5
  have p5 : w5.cell? ⟨B, 5, none⟩ = some (.int .i64 x.State.N) := by rw [cell_of_row w5 _ 5 _ _ _ n5]; rfl
  have yp5 : w5.frozen? ⟨B, 5, none⟩ = false := frozen_of_row w5 _ 5 _ _ n5
  have p6 : w5.cell? ⟨B, 6, none⟩ = some (.string x.State.S) := by rw [cell_of_row w5 _ 6 _ _ _ n5]; rfl
  have yp6 : w5.frozen? ⟨B, 6, none⟩ = false := frozen_of_row w5 _ 6 _ _ n5
  have p7 : w5.cell? ⟨B, 7, none⟩ = some (.slice b7 m7 k7) := by rw [cell_of_row w5 _ 7 _ _ _ n5]; rfl
  have yp7 : w5.frozen? ⟨B, 7, none⟩ = false := frozen_of_row w5 _ 7 _ _ n5
  have p8 : w5.cell? ⟨B, 8, none⟩ = some (.slice a8 l8 c8) := by rw [cell_of_row w5 _ 8 _ _ _ n5]; rfl
  have yp8 : w5.frozen? ⟨B, 8, none⟩ = false := frozen_of_row w5 _ 8 _ _ n5
  have e0 : w5.cell? ⟨B + 1, 0, none⟩ = some (.int .i64 0) := by rw [cell_of_row w5 _ 0 _ _ _ z5]; rfl
  have ye0 : w5.frozen? ⟨B + 1, 0, none⟩ = false := frozen_of_row w5 _ 0 _ _ z5
  have e1 : w5.cell? ⟨B + 1, 1, none⟩ = some (.string ⟨#[]⟩) := by rw [cell_of_row w5 _ 1 _ _ _ z5]; rfl
  have ye1 : w5.frozen? ⟨B + 1, 1, none⟩ = false := frozen_of_row w5 _ 1 _ _ z5
  have e2 : w5.cell? ⟨B + 1, 2, none⟩ = some (.string ⟨#[]⟩) := by rw [cell_of_row w5 _ 2 _ _ _ z5]; rfl
  have ye2 : w5.frozen? ⟨B + 1, 2, none⟩ = false := frozen_of_row w5 _ 2 _ _ z5
  have e3 : w5.cell? ⟨B + 1, 3, none⟩ = some (.int .i64 0) := by rw [cell_of_row w5 _ 3 _ _ _ z5]; rfl
  have ye3 : w5.frozen? ⟨B + 1, 3, none⟩ = false := frozen_of_row w5 _ 3 _ _ z5
  have e4 : w5.cell? ⟨B + 1, 4, none⟩ = some (.int .i64 0) := by rw [cell_of_row w5 _ 4 _ _ _ z5]; rfl
  have ye4 : w5.frozen? ⟨B + 1, 4, none⟩ = false := frozen_of_row w5 _ 4 _ _ z5
  have e5 : w5.cell? ⟨B + 1, 5, none⟩ = some (.int .i64 0) := by rw [cell_of_row w5 _ 5 _ _ _ z5]; rfl
  have ye5 : w5.frozen? ⟨B + 1, 5, none⟩ = false := frozen_of_row w5 _ 5 _ _ z5
  have e6 : w5.cell? ⟨B + 1, 6, none⟩ = some (.string ⟨#[]⟩) := by rw [cell_of_row w5 _ 6 _ _ _ z5]; rfl
  have ye6 : w5.frozen? ⟨B + 1, 6, none⟩ = false := frozen_of_row w5 _ 6 _ _ z5
  have e7 : w5.cell? ⟨B + 1, 7, none⟩ = some (.slice none 0 0) := by rw [cell_of_row w5 _ 7 _ _ _ z5]; rfl
  have ye7 : w5.frozen? ⟨B + 1, 7, none⟩ = false := frozen_of_row w5 _ 7 _ _ z5
  have e8 : w5.cell? ⟨B + 1, 8, none⟩ = some (.slice none 0 0) := by rw [cell_of_row w5 _ 8 _ _ _ z5]; rfl
  have ye8 : w5.frozen? ⟨B + 1, 8, none⟩ = false := frozen_of_row w5 _ 8 _ _ z5
  obtain ⟨w6, hw6⟩ : ∃ W, W = (w5.setCell ⟨B, 8, none⟩ (.slice b8 m8 k8)) := ⟨_, rfl⟩
  have n6 : w6.heap[B]? = some (.cells #[.int .i64 x.Pid, .string x.Name, .string x.Mod, .int .i64 x.No, .int .i64 x.State.K, .int .i64 x.State.N, .string x.State.S, .slice b7 m7 k7, .slice b8 m8 k8] 33 (0, 0)) := by
    rw [hw6]
    have zu8 : (w5.setCell ⟨B, 8, none⟩ (.slice b8 m8 k8)).heap[B]? = some (.cells #[.int .i64 x.Pid, .string x.Name, .string x.Mod, .int .i64 x.No, .int .i64 x.State.K, .int .i64 x.State.N, .string x.State.S, .slice b7 m7 k7, .slice b8 m8 k8] 33 (0, 0)) := heap_setCell_same _ (B) 8 _ _ (.slice b8 m8 k8) n5
    exact zu8
  have hK6 : Kept B (B + 1) w5 w6 := by
    rw [hw6]
    repeat (first | with_reducible exact Kept.refl _ _ _ | with_reducible refine Kept.drew ?_ | (with_reducible refine Kept.set ?_ ?_; omega))
  have z6 := (hK6.block (B + 1) (lt_row z5) (.inr (by omega))).trans z5
  have HFIN : Hid (∀ Z, Kept (B + 1) (B + 1 + 1) w6 Z → CwRes x w (.returned (.agg #[.int .i64 x.Pid, .string x.Name, .string x.Mod, .int .i64 x.No, .int .i64 x.State.K, .int .i64 x.State.N, .string x.State.S, .slice b7 m7 k7, .slice b8 m8 k8])) Z) := fun Z hZ => by
    have hz2 := HB.out.2.1
    have hz4 := HO.out.2.2.size
    have hBw := HB.out.1
    have hb4 : B + 1 < w4.heap.size := lt_row HN4.out.2
    have kept : ∀ g, B + 1 + 1 ≤ g → g < w5.heap.size → Z.heap[g]? = w5.heap[g]? := fun g h1 h2 => (hZ.block g (by have := hK6.size; omega) (.inr (by omega))).trans (hK6.block g h2 (.inr (by omega)))
    obtain ⟨_, _, _, _, _, rM, _⟩ := id HM2.out
    refine ⟨b7, b8, m7, k7, m8, k8, w4.heap.size, g1, f2, rfl, ⟨HO.out.1.frame fun g hg => ?_, fun g hg => ⟨by have := HO.out.2.1 g hg; omega, (HO.out.2.1 g hg).2⟩, HM2.out.frame (fun g hg => kept g (by have := (rM.2 g hg).1; omega) (rM.2 g hg).2) (by have := hK6.size; have := hZ.size; omega), by omega, by have := hb5.size; have := hK6.size; have := hZ.size; omega⟩, ?_⟩
    · have h1 := HO.out.2.1 g hg
      exact (kept g h1.1 (by have := hb5.size; omega)).trans (hb5.block g h1.2)
    · have h5 : Below w.heap.size w w5 := HO.out.2.2.trans (hb5.mono hz4)
      have h6 : Below w.heap.size w w6 := h5.trans (hK6.below (by omega) h5.size)
      exact h6.trans (hZ.below (by omega) h6.size)
  obtain ⟨w7, hw7⟩ : ∃ W, W = (((((((((w6.setCell ⟨B + 1, 0, none⟩ (.int .i64 x.Pid)).setCell ⟨B + 1, 1, none⟩ (.string x.Name)).setCell ⟨B + 1, 2, none⟩ (.string x.Mod)).setCell ⟨B + 1, 3, none⟩ (.int .i64 x.No)).setCell ⟨B + 1, 4, none⟩ (.int .i64 x.State.K)).setCell ⟨B + 1, 5, none⟩ (.int .i64 x.State.N)).setCell ⟨B + 1, 6, none⟩ (.string x.State.S)).setCell ⟨B + 1, 7, none⟩ (.slice b7 m7 k7)).setCell ⟨B + 1, 8, none⟩ (.slice b8 m8 k8)) := ⟨_, rfl⟩
  have n7 : w7.heap[B + 1]? = some (.cells #[.int .i64 x.Pid, .string x.Name, .string x.Mod, .int .i64 x.No, .int .i64 x.State.K, .int .i64 x.State.N, .string x.State.S, .slice b7 m7 k7, .slice b8 m8 k8] 33 (0, 0)) := by
    rw [hw7]
    have zr0 : (w6.setCell ⟨B + 1, 0, none⟩ (.int .i64 x.Pid)).heap[B + 1]? = some (.cells #[.int .i64 x.Pid, .string ⟨#[]⟩, .string ⟨#[]⟩, .int .i64 0, .int .i64 0, .int .i64 0, .string ⟨#[]⟩, .slice none 0 0, .slice none 0 0] 33 (0, 0)) := heap_setCell_same _ (B + 1) 0 _ _ (.int .i64 x.Pid) z6
    have zr1 : ((w6.setCell ⟨B + 1, 0, none⟩ (.int .i64 x.Pid)).setCell ⟨B + 1, 1, none⟩ (.string x.Name)).heap[B + 1]? = some (.cells #[.int .i64 x.Pid, .string x.Name, .string ⟨#[]⟩, .int .i64 0, .int .i64 0, .int .i64 0, .string ⟨#[]⟩, .slice none 0 0, .slice none 0 0] 33 (0, 0)) := heap_setCell_same _ (B + 1) 1 _ _ (.string x.Name) zr0
    have zr2 : (((w6.setCell ⟨B + 1, 0, none⟩ (.int .i64 x.Pid)).setCell ⟨B + 1, 1, none⟩ (.string x.Name)).setCell ⟨B + 1, 2, none⟩ (.string x.Mod)).heap[B + 1]? = some (.cells #[.int .i64 x.Pid, .string x.Name, .string x.Mod, .int .i64 0, .int .i64 0, .int .i64 0, .string ⟨#[]⟩, .slice none 0 0, .slice none 0 0] 33 (0, 0)) := heap_setCell_same _ (B + 1) 2 _ _ (.string x.Mod) zr1
    have zr3 : ((((w6.setCell ⟨B + 1, 0, none⟩ (.int .i64 x.Pid)).setCell ⟨B + 1, 1, none⟩ (.string x.Name)).setCell ⟨B + 1, 2, none⟩ (.string x.Mod)).setCell ⟨B + 1, 3, none⟩ (.int .i64 x.No)).heap[B + 1]? = some (.cells #[.int .i64 x.Pid, .string x.Name, .string x.Mod, .int .i64 x.No, .int .i64 0, .int .i64 0, .string ⟨#[]⟩, .slice none 0 0, .slice none 0 0] 33 (0, 0)) := heap_setCell_same _ (B + 1) 3 _ _ (.int .i64 x.No) zr2
    have zr4 : (((((w6.setCell ⟨B + 1, 0, none⟩ (.int .i64 x.Pid)).setCell ⟨B + 1, 1, none⟩ (.string x.Name)).setCell ⟨B + 1, 2, none⟩ (.string x.Mod)).setCell ⟨B + 1, 3, none⟩ (.int .i64 x.No)).setCell ⟨B + 1, 4, none⟩ (.int .i64 x.State.K)).heap[B + 1]? = some (.cells #[.int .i64 x.Pid, .string x.Name, .string x.Mod, .int .i64 x.No, .int .i64 x.State.K, .int .i64 0, .string ⟨#[]⟩, .slice none 0 0, .slice none 0 0] 33 (0, 0)) := heap_setCell_same _ (B + 1) 4 _ _ (.int .i64 x.State.K) zr3
    have zr5 : ((((((w6.setCell ⟨B + 1, 0, none⟩ (.int .i64 x.Pid)).setCell ⟨B + 1, 1, none⟩ (.string x.Name)).setCell ⟨B + 1, 2, none⟩ (.string x.Mod)).setCell ⟨B + 1, 3, none⟩ (.int .i64 x.No)).setCell ⟨B + 1, 4, none⟩ (.int .i64 x.State.K)).setCell ⟨B + 1, 5, none⟩ (.int .i64 x.State.N)).heap[B + 1]? = some (.cells #[.int .i64 x.Pid, .string x.Name, .string x.Mod, .int .i64 x.No, .int .i64 x.State.K, .int .i64 x.State.N, .string ⟨#[]⟩, .slice none 0 0, .slice none 0 0] 33 (0, 0)) := heap_setCell_same _ (B + 1) 5 _ _ (.int .i64 x.State.N) zr4
    have zr6 : (((((((w6.setCell ⟨B + 1, 0, none⟩ (.int .i64 x.Pid)).setCell ⟨B + 1, 1, none⟩ (.string x.Name)).setCell ⟨B + 1, 2, none⟩ (.string x.Mod)).setCell ⟨B + 1, 3, none⟩ (.int .i64 x.No)).setCell ⟨B + 1, 4, none⟩ (.int .i64 x.State.K)).setCell ⟨B + 1, 5, none⟩ (.int .i64 x.State.N)).setCell ⟨B + 1, 6, none⟩ (.string x.State.S)).heap[B + 1]? = some (.cells #[.int .i64 x.Pid, .string x.Name, .string x.Mod, .int .i64 x.No, .int .i64 x.State.K, .int .i64 x.State.N, .string x.State.S, .slice none 0 0, .slice none 0 0] 33 (0, 0)) := heap_setCell_same _ (B + 1) 6 _ _ (.string x.State.S) zr5
    have zr7 : ((((((((w6.setCell ⟨B + 1, 0, none⟩ (.int .i64 x.Pid)).setCell ⟨B + 1, 1, none⟩ (.string x.Name)).setCell ⟨B + 1, 2, none⟩ (.string x.Mod)).setCell ⟨B + 1, 3, none⟩ (.int .i64 x.No)).setCell ⟨B + 1, 4, none⟩ (.int .i64 x.State.K)).setCell ⟨B + 1, 5, none⟩ (.int .i64 x.State.N)).setCell ⟨B + 1, 6, none⟩ (.string x.State.S)).setCell ⟨B + 1, 7, none⟩ (.slice b7 m7 k7)).heap[B + 1]? = some (.cells #[.int .i64 x.Pid, .string x.Name, .string x.Mod, .int .i64 x.No, .int .i64 x.State.K, .int .i64 x.State.N, .string x.State.S, .slice b7 m7 k7, .slice none 0 0] 33 (0, 0)) := heap_setCell_same _ (B + 1) 7 _ _ (.slice b7 m7 k7) zr6
    have zr8 : (((((((((w6.setCell ⟨B + 1, 0, none⟩ (.int .i64 x.Pid)).setCell ⟨B + 1, 1, none⟩ (.string x.Name)).setCell ⟨B + 1, 2, none⟩ (.string x.Mod)).setCell ⟨B + 1, 3, none⟩ (.int .i64 x.No)).setCell ⟨B + 1, 4, none⟩ (.int .i64 x.State.K)).setCell ⟨B + 1, 5, none⟩ (.int .i64 x.State.N)).setCell ⟨B + 1, 6, none⟩ (.string x.State.S)).setCell ⟨B + 1, 7, none⟩ (.slice b7 m7 k7)).setCell ⟨B + 1, 8, none⟩ (.slice b8 m8 k8)).heap[B + 1]? = some (.cells #[.int .i64 x.Pid, .string x.Name, .string x.Mod, .int .i64 x.No, .int .i64 x.State.K, .int .i64 x.State.N, .string x.State.S, .slice b7 m7 k7, .slice b8 m8 k8] 33 (0, 0)) := heap_setCell_same _ (B + 1) 8 _ _ (.slice b8 m8 k8) zr7
    exact zr8
  have hK7 : Kept (B + 1) (B + 1 + 1) w6 w7 := by
    rw [hw7]
    repeat (first | with_reducible exact Kept.refl _ _ _ | with_reducible refine Kept.drew ?_ | (with_reducible refine Kept.set ?_ ?_; omega))
  have HE : Hid (CwRes x w (.returned (.agg #[.int .i64 x.Pid, .string x.Name, .string x.Mod, .int .i64 x.No, .int .i64 x.State.K, .int .i64 x.State.N, .string x.State.S, .slice b7 m7 k7, .slice b8 m8 k8])) w7 ∧ w7.heap[B + 1]? = _) := ⟨HFIN.out _ hK7, n7⟩
  have HW6 : Hid (w6 = _) := hw6
  have HW7 : Hid (w7 = _) := hw7
  rw [hw6] at HW7
  clear n6 z6 n5 z5 hw6 hw7 n7 hK6 hK7 HFIN HO HN4 HM2 hb5
  go_wp2_with fail
  rw [← HW7.out]
  refine bodyPost_ret (res_one Try.f33 _ 2 (B + 1) w7 _ _ _ _ _ _ _ _ _ rfl rfl HE.out.2) rfl HE.out.1

end Go.Proofs.Ytfachfimdenapaa

/- The model's PutWord. -/
namespace Go.Proofs.Ytfachfimdenapaa
open Go.RowKit
set_option linter.unusedVariables false

/-- What the model hands on. -/
def MwRes {d : Nat} (x : DWorker d) (t : Tm (d + 1)) (w : World) (e : Ending) (w' : World) : Prop := ∃ (y : DWorker d) (ok : Bool) (K N : Int) (S : ByteArray) (a7 a8 : Option Addr) (l7 c7 l8 c8 : Nat), e = .returned (.tuple #[.agg #[.int .i64 y.Pid, .string y.Name, .string y.Mod, .int .i64 y.No, .int .i64 K, .int .i64 N, .string S, .slice a7 l7 c7, .slice a8 l8 c8], .bool ok]) ∧
  Hid (PwT x t y ok ∧ ∀ Z : World, (∀ g, w.heap.size ≤ g → g < w'.heap.size → Z.heap[g]? = w'.heap[g]?) → WorkerR d Z [.int .i64 y.Pid, .string y.Name, .string y.Mod, .int .i64 y.No, .int .i64 K, .int .i64 N, .string S, .slice a7 l7 c7, .slice a8 l8 c8] y) ∧ Below w.heap.size w w'

theorem Made.own_in3 {m B : Nat} {w : World} {v : Value} {ts : List (Tm m)} {fp : List Nat} (h : Made m B w v ts fp) : ∃ a l c fp', v = .slice a l c ∧ OwnL m w v ts fp' ∧ (∀ g ∈ fp', g ∈ fp) ∧ WfL m ts := by
  obtain ⟨cs, fps, h1, h2, h3, h4, h5, h6⟩ := h
  rcases h1.2 with ⟨rfl, e⟩ | ⟨g, c, cur, e1, e2, e3, e4, e5, e6, e7⟩
  · refine ⟨none, 0, 0, [], rfl, ?_, fun g hg => (by cases hg), h5⟩
    cases m with
    | zero => exact ⟨⟨_, _, rfl⟩, rfl⟩
    | succ m => exact .inl ⟨List.length_eq_zero_iff.1 e, rfl, _, _, rfl⟩
  · cases m with
    | zero =>
      have hts : ts = [] := tm0 ts
      subst hts
      exact ⟨_, _, _, [], e1, ⟨⟨_, _, e1⟩, rfl⟩, fun g hg => (by cases hg), h5⟩
    | succ m =>
      refine ⟨_, _, _, fp, e1, .inr ⟨g, c, cur, fps, e1, e3, h2, by rw [h3, e1]; rfl, fun i t ht => ?_⟩, fun g hg => hg, h5⟩
      obtain ⟨lv, f, q0, q1, q2, q3, q4, q5⟩ := h6 i t ht
      exact ⟨lv, f, q0, by rw [← Array.getElem?_toList]; exact take_at e7 q1, by rw [← Array.getElem?_toList]; exact take_at e7 q2, by rw [← Array.getElem?_toList]; exact take_at e7 q3, by rw [← Array.getElem?_toList]; exact take_at e7 q4, q5⟩

/-- Behind the copy of the word. -/
theorem pm_aft {d B O B2 j : Nat} {w wr w' : World} {bx : List (Tm (d + 1))} {sl : List (Tm d)} {t : Tm (d + 1)} {b7 b8 a2 : Option Addr} {m7 k7 m8 k8 l2 c2 : Nat} {f1 f2 f3 : List Nat} {cs : List Value} {v0 v1 v2 v3 v4 v5 v6 v7 : Value}
    (hM : Made (d + 1) B2 wr (.slice b8 m8 k8) bx f2) (hrow : wr.ownsRow B2 31 4 (.slice b8 m8 k8) j cs) (hj : bx.length = j) (hj1 : j ≤ 20) (hf2 : ∀ g ∈ f2, B2 ≤ g ∧ g < O) (hO : wr.heap[O]? = some (.cells #[v0, v1, v2, v3, v4, v5, v6, v7, .slice b8 m8 k8] 33 (0, 0))) (hB2 : B2 ≤ O) (hwt : WfT (d + 1) t)
    (h1 : OwnL d wr (.slice b7 m7 k7) sl f1) (hf1 : ∀ g ∈ f1, B + 1 + 1 + 1 ≤ g ∧ g < B2) (hBB : B + 1 + 1 + 1 ≤ B2) (hwB : w.heap.size = B) (hb : Below w.heap.size w wr)
    (hP : Made d (wr.heap.size + 1 + 1 + 1) w' (.slice a2 l2 c2) t.L f3) (hbw : Below wr.heap.size wr w') :
    w'.cell? ⟨O, 8, none⟩ = some (.slice b8 m8 k8) ∧ O < w'.heap.size ∧ w'.ownsRow B2 31 4 (.slice b8 m8 k8) j cs ∧
    Hid (∀ (w2 : World) (av2 : Option Addr) (lv2 cv2 : Nat), w2.ownsRow B2 31 4 (.slice av2 lv2 cv2) (j + 1) (cs ++ [.int .i64 t.K, .int .i64 t.N, .string t.S, .slice a2 l2 c2]) → (w'.alloc (.cells #[.int .i64 t.K, .int .i64 t.N, .string t.S, .slice a2 l2 c2] 31)).grownBy w2 (Value.slice b8 m8 k8).ownBlock →
      ((Value.slice av2 lv2 cv2).ownBlock = (Value.slice b8 m8 k8).ownBlock ∨ (Value.slice av2 lv2 cv2).ownBlock = some (w'.alloc (.cells #[.int .i64 t.K, .int .i64 t.N, .string t.S, .slice a2 l2 c2] 31)).heap.size) →
      w2.cell? ⟨O, 8, none⟩ = some (.slice b8 m8 k8) ∧ w2.frozen? ⟨O, 8, none⟩ = false ∧ Hid ((w2.setCell ⟨O, 8, none⟩ (.slice av2 lv2 cv2)).heap[O]? = some (.cells #[v0, v1, v2, v3, v4, v5, v6, v7, .slice av2 lv2 cv2] 33 (0, 0)) ∧ (w2.setCell ⟨O, 8, none⟩ (.slice av2 lv2 cv2)).heap[B + 1 + 1]? = wr.heap[B + 1 + 1]? ∧ Below w.heap.size w (w2.setCell ⟨O, 8, none⟩ (.slice av2 lv2 cv2)) ∧
        (∀ Z : World, (∀ g, B + 1 + 1 + 1 ≤ g → g < (w2.setCell ⟨O, 8, none⟩ (.slice av2 lv2 cv2)).heap.size → Z.heap[g]? = (w2.setCell ⟨O, 8, none⟩ (.slice av2 lv2 cv2)).heap[g]?) → RdL d Z (.slice b7 m7 k7) sl) ∧ (∀ Z : World, (∀ g, B + 1 + 1 + 1 ≤ g → g < (w2.setCell ⟨O, 8, none⟩ (.slice av2 lv2 cv2)).heap.size → Z.heap[g]? = (w2.setCell ⟨O, 8, none⟩ (.slice av2 lv2 cv2)).heap[g]?) → RdL (d + 1) Z (.slice av2 lv2 cv2) (bx ++ [t])))) := by
  have z0 := lt_row hO
  have hO' := (hbw.block _ z0).trans hO
  have z1 := hbw.size
  have hob : ∀ g, (Value.slice b8 m8 k8).ownBlock = some g → g ∈ f2 := fun g hg => by
    obtain ⟨_, _, _, _, e, _⟩ := id hM
    rw [e, hg]
    exact List.mem_append_left _ (List.mem_singleton.2 rfl)
  have hA1 : Below w'.heap.size w' (w'.alloc (.cells #[.int .i64 t.K, .int .i64 t.N, .string t.S, .slice a2 l2 c2] 31)) := (Below.refl _ _).alloc (Nat.le_refl _) _
  refine ⟨by rw [cell_of_row w' _ 8 _ _ _ hO']; rfl, by omega, rowKept hrow fun g hg => hbw.block g (by have := hf2 g (hob g hg); omega), fun w2 av2 lv2 cv2 i1 i2 i3 => ?_⟩
  have hne : ∀ g, g < B2 ∨ g = O → some g ≠ (Value.slice b8 m8 k8).ownBlock := fun g hg e => by have := hf2 g (hob g e.symm); omega
  have kp : ∀ g, g < wr.heap.size → (g < B2 ∨ g = O) → w2.heap[g]? = wr.heap[g]? := fun g hg ho => (i2.block g (by have := hA1.size; omega) (hne g ho)).trans ((hA1.block g (by omega)).trans (hbw.block g hg))
  have hO2 := (kp O z0 (.inr rfl)).trans hO
  have htk : (bx ++ [t]).take j = bx := by rw [← hj]; exact List.take_left
  have hat : (bx ++ [t])[j]? = some t := by rw [← hj]; simp
  obtain ⟨fp', hm, hb2, _, hmem⟩ := call_step (ts := bx ++ [t]) (j := j) hb (by omega) (by rw [htk]; exact hM) hrow hat hwt (by omega) (by omega) hP hbw hA1 i1 i2 i3
  have htk2 : (bx ++ [t]).take (j + 1) = bx ++ [t] := List.take_of_length_le (by simp [hj])
  rw [htk2] at hm
  obtain ⟨_, _, _, _, _, r, _⟩ := id hm
  have hset : ∀ g, g ≠ O → (w2.setCell ⟨O, 8, none⟩ (.slice av2 lv2 cv2)).heap[g]? = w2.heap[g]? := fun g hg => heap_setCell_other w2 ⟨O, 8, none⟩ g _ hg
  have hsz : (w2.setCell ⟨O, 8, none⟩ (.slice av2 lv2 cv2)).heap.size = w2.heap.size := by simp
  have hw2 : wr.heap.size ≤ w2.heap.size := by have := i2.size; have := hA1.size; omega
  refine ⟨by rw [cell_of_row w2 _ 8 _ _ _ hO2]; rfl, frozen_of_row w2 _ 8 _ _ hO2, heap_setCell_same w2 O 8 _ _ _ hO2, (hset _ (by omega)).trans (kp _ (by omega) (.inl (by omega))), hb2.setCell (p := ⟨O, 8, none⟩) (by show w.heap.size ≤ O; omega) _, fun Z hZ => ?_, fun Z hZ => ?_⟩
  · refine (h1.frame fun g hg => ?_).rd
    have h2 := hf1 g hg
    exact (hZ g h2.1 (by omega)).trans ((hset g (by omega)).trans (kp g (by omega) (.inl h2.2)))
  · obtain ⟨_, _, _, f9, _, o9, r9, _⟩ := id hm.own_in3
    refine (o9.frame fun g hg => ?_).rd
    have h4 := r9 g hg
    have h2 := r.2 g h4
    have h3 : g ≠ O := by
      rcases hmem g h4 with h | h
      · have := hf2 g h; omega
      · omega
    exact (hZ g (by omega) (by omega)).trans (hset g h3)

set_option maxRecDepth 100000 in
set_option maxHeartbeats 4000000 in
theorem specPutWord_any (d : Nat) (x : DWorker d) (t : Tm (d + 1)) (a7 a8 al : Option Addr) (l7 c7 l8 c8 ll lc : Nat) (w : World) (hr : WorkerR d w [.int .i64 x.Pid, .string x.Name, .string x.Mod, .int .i64 x.No, .int .i64 x.State.K, .int .i64 x.State.N, .string x.State.S, .slice a7 l7 c7, .slice a8 l8 c8] x)
    (hl : RdL d w (.slice al ll lc) t.L) (hw : WfWorker d x) (hz : szWorkerD d x ≤ 1048576) (ht : WfTm d t) (hf7 : FewL d x.State.L) (hf8 : FewL (d + 1) x.Box) (hft : FewL d t.L) :
    Calls Try.prog 12 #[.agg #[.int .i64 x.Pid, .string x.Name, .string x.Mod, .int .i64 x.No, .int .i64 x.State.K, .int .i64 x.State.N, .string x.State.S, .slice a7 l7 c7, .slice a8 l8 c8], .agg #[.int .i64 t.K, .int .i64 t.N, .string t.S, .slice al ll lc]] w fun e w' => MwRes x t w e w' := by
  obtain ⟨B, hB⟩ : ∃ B, w.heap.size = B := ⟨_, rfl⟩
  obtain ⟨W1, hW1⟩ : ∃ W, W = w.alloc (.cells #[.int .i64 x.Pid, .string x.Name, .string x.Mod, .int .i64 x.No, .int .i64 x.State.K, .int .i64 x.State.N, .string x.State.S, .slice a7 l7 c7, .slice a8 l8 c8] 33) := ⟨_, rfl⟩
  obtain ⟨W2, hW2⟩ : ∃ W, W = W1.alloc (.cells #[.int .i64 t.K, .int .i64 t.N, .string t.S, .slice al ll lc] 31) := ⟨_, rfl⟩
  obtain ⟨W3, hW3⟩ : ∃ W, W = W2.alloc (.cells #[.int .i64 0, .string ⟨#[]⟩, .string ⟨#[]⟩, .int .i64 0, .int .i64 0, .int .i64 0, .string ⟨#[]⟩, .slice none 0 0, .slice none 0 0] 33) := ⟨_, rfl⟩
  have s1 : W1.heap.size = B + 1 := by rw [hW1, ← hB]; simp
  have s2 : W2.heap.size = B + 1 + 1 := by rw [hW2]; simp [s1]
  have s3 : W3.heap.size = B + 1 + 1 + 1 := by rw [hW3]; simp [s2]
  have b1 : Below w.heap.size w W1 := by rw [hW1]; exact (Below.refl _ _).alloc (Nat.le_refl _) _
  have b2 : Below W1.heap.size W1 W2 := by rw [hW2]; exact (Below.refl _ _).alloc (Nat.le_refl _) _
  have b3 : Below W2.heap.size W2 W3 := by rw [hW3]; exact (Below.refl _ _).alloc (Nat.le_refl _) _
  have bw : Below w.heap.size w W3 := b1.trans ((b2.trans (b3.mono b2.size)).mono b1.size)
  have nP : W3.heap[B]? = some (.cells #[.int .i64 x.Pid, .string x.Name, .string x.Mod, .int .i64 x.No, .int .i64 x.State.K, .int .i64 x.State.N, .string x.State.S, .slice a7 l7 c7, .slice a8 l8 c8] 33 (0, 0)) := by
    refine (b3.block B (by omega)).trans ((b2.block B (by omega)).trans ?_)
    rw [hW1, ← hB]; exact heap_alloc_new w _
  have nT : W3.heap[B + 1]? = some (.cells #[.int .i64 t.K, .int .i64 t.N, .string t.S, .slice al ll lc] 31 (0, 0)) := by
    refine (b3.block (B + 1) (by omega)).trans ?_
    rw [hW2, ← s1]; exact heap_alloc_new W1 _
  have nZ : W3.heap[B + 1 + 1]? = some (.cells #[.int .i64 0, .string ⟨#[]⟩, .string ⟨#[]⟩, .int .i64 0, .int .i64 0, .int .i64 0, .string ⟨#[]⟩, .slice none 0 0, .slice none 0 0] 33 (0, 0)) := by rw [hW3, ← s2]; exact heap_alloc_new W2 _
  have h7 : RdL d w (.slice a7 l7 c7) x.State.L := by
    obtain ⟨_, _, _, _, _, e, ⟨lv, e2, h⟩, _⟩ := hr
    simp only [List.cons.injEq, and_true, true_and] at e e2
    rw [e.2.2.2.1, e2.2.2.2]
    exact h
  have h8 : RdL (d + 1) w (.slice a8 l8 c8) x.Box := by
    obtain ⟨_, _, _, _, _, e, _, h⟩ := hr
    simp only [List.cons.injEq, and_true, true_and] at e
    rw [e.2.2.2.2]
    exact h
  have hl8 : x.Box.length = l8 := by
    obtain ⟨_, _, e⟩ := h8.len
    simp only [Value.slice.injEq] at e
    exact e.2.1.symm
  have HB : Hid (w.heap.size = B ∧ W3.heap.size = B + 1 + 1 + 1 ∧ x.Box.length = l8) := ⟨hB, s3, hl8⟩
  have HR : Hid (∀ V : World, Below w.heap.size w V → WorkerR d V [.int .i64 x.Pid, .string x.Name, .string x.Mod, .int .i64 x.No, .int .i64 x.State.K, .int .i64 x.State.N, .string x.State.S, .slice a7 l7 c7, .slice a8 l8 c8] x ∧ RdL d V (.slice al ll lc) t.L) := fun V hV => ⟨WorkerR.lasts d _ _ _ _ hr hV, hl.later hV⟩
  have HD : Hid (WfWorker d x ∧ szWorkerD d x ≤ 1048576 ∧ WfTm d t ∧ FewL d t.L ∧ x.Box.length ≤ 1048576) := ⟨hw, hz, ht, hft, hf8.1⟩
  have HS3 : Hid (∀ V : World, Below W3.heap.size W3 V → V.heap[B]? = some (.cells #[.int .i64 x.Pid, .string x.Name, .string x.Mod, .int .i64 x.No, .int .i64 x.State.K, .int .i64 x.State.N, .string x.State.S, .slice a7 l7 c7, .slice a8 l8 c8] 33 (0, 0)) ∧ V.heap[B + 1]? = some (.cells #[.int .i64 t.K, .int .i64 t.N, .string t.S, .slice al ll lc] 31 (0, 0)) ∧ V.heap[B + 1 + 1]? = some (.cells #[.int .i64 0, .string ⟨#[]⟩, .string ⟨#[]⟩, .int .i64 0, .int .i64 0, .int .i64 0, .string ⟨#[]⟩, .slice none 0 0, .slice none 0 0] 33 (0, 0)) ∧ Below w.heap.size w V) := fun V hV =>
    ⟨(hV.block _ (lt_row nP)).trans nP, (hV.block _ (lt_row nT)).trans nT, (hV.block _ (lt_row nZ)).trans nZ, bw.trans (hV.mono bw.size)⟩
  have hC := l13Copy_any d x a7 a8 l7 c7 l8 c8 W3 (h7.later bw) (h8.later bw) hw hf7 hf8
  have HW3 : Hid (W3 = _) := hW3
  rw [hW3, hW2, hW1] at hC
  rw [hW2, hW1] at HW3
  clear nP nT nZ hr h7 h8 hl hW1 hW2 hW3 s1 s2 s3 b1 b2 b3 bw hw hz ht hft hf7 hf8 hl8
  go_enter Try.func12, Try.ntmps12
  go_wp2_with fail
  refine hC.mono ?_
  clear hC
  rw [← HW3.out]
  rintro e w4 ⟨b7, b8, m7, k7, m8, k8, B2, f1, f2, rfl, HC, hb4⟩
  obtain ⟨O, hO⟩ : ∃ O, w4.heap.size = O := ⟨_, rfl⟩
  obtain ⟨W5, hW5⟩ : ∃ W, W = w4.alloc (.cells #[.int .i64 x.Pid, .string x.Name, .string x.Mod, .int .i64 x.No, .int .i64 x.State.K, .int .i64 x.State.N, .string x.State.S, .slice b7 m7 k7, .slice b8 m8 k8] 33) := ⟨_, rfl⟩
  have b5 : Below w4.heap.size w4 W5 := by rw [hW5]; exact (Below.refl _ _).alloc (Nat.le_refl _) _
  have nO : W5.heap[O]? = some (.cells #[.int .i64 x.Pid, .string x.Name, .string x.Mod, .int .i64 x.No, .int .i64 x.State.K, .int .i64 x.State.N, .string x.State.S, .slice b7 m7 k7, .slice b8 m8 k8] 33 (0, 0)) := by rw [hW5, ← hO]; exact heap_alloc_new w4 _
  have b35 : Below W3.heap.size W3 W5 := hb4.trans (b5.mono hb4.size)
  have HZO : Hid (B + 1 + 1 + 1 ≤ O ∧ B2 ≤ O ∧ w.heap.size ≤ B2 ∧ B + 1 + 1 + 1 ≤ B2 ∧ (∀ g ∈ f1, B + 1 + 1 + 1 ≤ g ∧ g < B2) ∧ (∀ g ∈ f2, B2 ≤ g ∧ g < O)) := by
    have h1 := HB.out
    have h2 := hb4.size
    obtain ⟨q1, q2, q3, q4, q5⟩ := HC.out
    obtain ⟨_, _, _, _, _, r, _⟩ := id q3
    exact ⟨by omega, by omega, by omega, by omega, fun g hg => by have := q2 g hg; omega, fun g hg => by have := r.2 g hg; omega⟩
  have HST : Hid (∀ V : World, Below W5.heap.size W5 V → V.heap[B]? = some (.cells #[.int .i64 x.Pid, .string x.Name, .string x.Mod, .int .i64 x.No, .int .i64 x.State.K, .int .i64 x.State.N, .string x.State.S, .slice a7 l7 c7, .slice a8 l8 c8] 33 (0, 0)) ∧ V.heap[B + 1]? = some (.cells #[.int .i64 t.K, .int .i64 t.N, .string t.S, .slice al ll lc] 31 (0, 0)) ∧ V.heap[B + 1 + 1]? = some (.cells #[.int .i64 0, .string ⟨#[]⟩, .string ⟨#[]⟩, .int .i64 0, .int .i64 0, .int .i64 0, .string ⟨#[]⟩, .slice none 0 0, .slice none 0 0] 33 (0, 0)) ∧ V.heap[O]? = some (.cells #[.int .i64 x.Pid, .string x.Name, .string x.Mod, .int .i64 x.No, .int .i64 x.State.K, .int .i64 x.State.N, .string x.State.S, .slice b7 m7 k7, .slice b8 m8 k8] 33 (0, 0)) ∧ Below w.heap.size w V ∧ O < V.heap.size ∧ OwnL d V (.slice b7 m7 k7) x.State.L f1 ∧ Made (d + 1) B2 V (.slice b8 m8 k8) x.Box f2) := fun V hV => by
    obtain ⟨q1, q2, q3, q4⟩ := HS3.out V (b35.trans (hV.mono b35.size))
    have hz5 : O < W5.heap.size := lt_row nO
    have hk : ∀ g, g < O → V.heap[g]? = w4.heap[g]? := fun g hg => (hV.block g (by omega)).trans (b5.block g (by omega))
    refine ⟨q1, q2, q3, (hV.block _ hz5).trans nO, q4, Nat.lt_of_lt_of_le hz5 hV.size, HC.out.1.frame fun g hg => hk g (by have := HZO.out.2.2.2.2.1 g hg; have := HZO.out.2.1; omega), HC.out.2.2.1.frame (fun g hg => hk g (HZO.out.2.2.2.2.2 g hg).2) (by have := hV.size; omega)⟩
  have hC := specWorkerOk_any d _ x W5 (HR.out W5 (HST.out W5 (Below.refl _ _)).2.2.2.2.1).1 HD.out.1 HD.out.2.1
  have HW5 : Hid (W5 = _) := hW5
  have H5 := HST.out W5 (Below.refl _ _)
  rw [hW5] at hC
  have p0 : W5.cell? ⟨B, 0, none⟩ = some (.int .i64 x.Pid) := by rw [cell_of_row W5 _ 0 _ _ _ H5.1]; rfl
  have p1 : W5.cell? ⟨B, 1, none⟩ = some (.string x.Name) := by rw [cell_of_row W5 _ 1 _ _ _ H5.1]; rfl
  have p2 : W5.cell? ⟨B, 2, none⟩ = some (.string x.Mod) := by rw [cell_of_row W5 _ 2 _ _ _ H5.1]; rfl
  have p3 : W5.cell? ⟨B, 3, none⟩ = some (.int .i64 x.No) := by rw [cell_of_row W5 _ 3 _ _ _ H5.1]; rfl
  have p4 : W5.cell? ⟨B, 4, none⟩ = some (.int .i64 x.State.K) := by rw [cell_of_row W5 _ 4 _ _ _ H5.1]; rfl
  have p5 : W5.cell? ⟨B, 5, none⟩ = some (.int .i64 x.State.N) := by rw [cell_of_row W5 _ 5 _ _ _ H5.1]; rfl
  have p6 : W5.cell? ⟨B, 6, none⟩ = some (.string x.State.S) := by rw [cell_of_row W5 _ 6 _ _ _ H5.1]; rfl
  have p7 : W5.cell? ⟨B, 7, none⟩ = some (.slice a7 l7 c7) := by rw [cell_of_row W5 _ 7 _ _ _ H5.1]; rfl
  have p8 : W5.cell? ⟨B, 8, none⟩ = some (.slice a8 l8 c8) := by rw [cell_of_row W5 _ 8 _ _ _ H5.1]; rfl
  rw [hW5] at p0 p1 p2 p3 p4 p5 p6 p7 p8
  clear H5 hW5 b5 nO b35 hb4 HC HS3
  go_wp2_with fail
  refine hC.mono ?_
  clear hC p0 p1 p2 p3 p4 p5 p6 p7 p8
  rw [← HW5.out]
  rintro e w6 ⟨bb, rfl, hbb, hb6⟩
  have HB6 : Hid ((bb = true ↔ pWorkerOk d x) ∧ Below W5.heap.size W5 w6) := ⟨hbb, hb6⟩
  obtain ⟨H0, H1, hZ_6, hO_6, H4, H5, H6, H7⟩ := HST.out w6 hb6
  have HBL_6 : Hid (Below w.heap.size w w6) := H4
  have HRD_6 : Hid ((∀ Z : World, (∀ g, B + 1 + 1 + 1 ≤ g → g < w6.heap.size → Z.heap[g]? = w6.heap[g]?) → RdL d Z (.slice b7 m7 k7) x.State.L) ∧ (∀ Z : World, (∀ g, B + 1 + 1 + 1 ≤ g → g < w6.heap.size → Z.heap[g]? = w6.heap[g]?) → RdL (d + 1) Z (.slice b8 m8 k8) x.Box)) := by
    obtain ⟨_, _, _, _, o1, _⟩ := H7.own
    obtain ⟨a9, l9, c9, f9, e9, o9, r9, _⟩ := id H7.own
    have hz9 := HZO.out
    refine ⟨fun Z hZ => (H6.frame fun g hg => hZ g ?_ ?_).rd, fun Z hZ => (o9.frame fun g hg => hZ g (by have := (r9.2 g hg).1; omega) (r9.2 g hg).2).rd⟩
    · exact (HZO.out.2.2.2.2.1 g hg).1
    · have := HZO.out.2.2.2.2.1 g hg
      have := HZO.out.2.1
      omega
  have q0 : w6.cell? ⟨B, 0, none⟩ = some (.int .i64 x.Pid) := by rw [cell_of_row w6 _ 0 _ _ _ H0]; rfl
  have q1 : w6.cell? ⟨B, 1, none⟩ = some (.string x.Name) := by rw [cell_of_row w6 _ 1 _ _ _ H0]; rfl
  have q2 : w6.cell? ⟨B, 2, none⟩ = some (.string x.Mod) := by rw [cell_of_row w6 _ 2 _ _ _ H0]; rfl
  have q3 : w6.cell? ⟨B, 3, none⟩ = some (.int .i64 x.No) := by rw [cell_of_row w6 _ 3 _ _ _ H0]; rfl
  have q4 : w6.cell? ⟨B, 4, none⟩ = some (.int .i64 x.State.K) := by rw [cell_of_row w6 _ 4 _ _ _ H0]; rfl
  have q5 : w6.cell? ⟨B, 5, none⟩ = some (.int .i64 x.State.N) := by rw [cell_of_row w6 _ 5 _ _ _ H0]; rfl
  have q6 : w6.cell? ⟨B, 6, none⟩ = some (.string x.State.S) := by rw [cell_of_row w6 _ 6 _ _ _ H0]; rfl
  have q7 : w6.cell? ⟨B, 7, none⟩ = some (.slice a7 l7 c7) := by rw [cell_of_row w6 _ 7 _ _ _ H0]; rfl
  have q8 : w6.cell? ⟨B, 8, none⟩ = some (.slice a8 l8 c8) := by rw [cell_of_row w6 _ 8 _ _ _ H0]; rfl
  have t0 : w6.cell? ⟨B + 1, 0, none⟩ = some (.int .i64 t.K) := by rw [cell_of_row w6 _ 0 _ _ _ H1]; rfl
  have t1 : w6.cell? ⟨B + 1, 1, none⟩ = some (.int .i64 t.N) := by rw [cell_of_row w6 _ 1 _ _ _ H1]; rfl
  have t2 : w6.cell? ⟨B + 1, 2, none⟩ = some (.string t.S) := by rw [cell_of_row w6 _ 2 _ _ _ H1]; rfl
  have t3 : w6.cell? ⟨B + 1, 3, none⟩ = some (.slice al ll lc) := by rw [cell_of_row w6 _ 3 _ _ _ H1]; rfl
  clear hbb H0 H1 H4 H5 H6 H7 HW5
  cases bb with
  | false =>
    have HNO : Hid (¬ (pWorkerOk d x ∧ RightT d t ∧ x.Box.length < 20)) := fun h => by have := HB6.out.1.2 h.1; cases this
    have o0 : w6.cell? ⟨O, 0, none⟩ = some (.int .i64 x.Pid) := by rw [cell_of_row w6 _ 0 _ _ _ hO_6]; rfl
    have o1 : w6.cell? ⟨O, 1, none⟩ = some (.string x.Name) := by rw [cell_of_row w6 _ 1 _ _ _ hO_6]; rfl
    have o2 : w6.cell? ⟨O, 2, none⟩ = some (.string x.Mod) := by rw [cell_of_row w6 _ 2 _ _ _ hO_6]; rfl
    have o3 : w6.cell? ⟨O, 3, none⟩ = some (.int .i64 x.No) := by rw [cell_of_row w6 _ 3 _ _ _ hO_6]; rfl
    have o4 : w6.cell? ⟨O, 4, none⟩ = some (.int .i64 x.State.K) := by rw [cell_of_row w6 _ 4 _ _ _ hO_6]; rfl
    have o5 : w6.cell? ⟨O, 5, none⟩ = some (.int .i64 x.State.N) := by rw [cell_of_row w6 _ 5 _ _ _ hO_6]; rfl
    have o6 : w6.cell? ⟨O, 6, none⟩ = some (.string x.State.S) := by rw [cell_of_row w6 _ 6 _ _ _ hO_6]; rfl
    have o7 : w6.cell? ⟨O, 7, none⟩ = some (.slice b7 m7 k7) := by rw [cell_of_row w6 _ 7 _ _ _ hO_6]; rfl
    have o8 : w6.cell? ⟨O, 8, none⟩ = some (.slice b8 m8 k8) := by rw [cell_of_row w6 _ 8 _ _ _ hO_6]; rfl
    have e0 : w6.cell? ⟨B + 1 + 1, 0, none⟩ = some (.int .i64 0) := by rw [cell_of_row w6 _ 0 _ _ _ hZ_6]; rfl
    have ye0 : w6.frozen? ⟨B + 1 + 1, 0, none⟩ = false := frozen_of_row w6 _ 0 _ _ hZ_6
    have e1 : w6.cell? ⟨B + 1 + 1, 1, none⟩ = some (.string ⟨#[]⟩) := by rw [cell_of_row w6 _ 1 _ _ _ hZ_6]; rfl
    have ye1 : w6.frozen? ⟨B + 1 + 1, 1, none⟩ = false := frozen_of_row w6 _ 1 _ _ hZ_6
    have e2 : w6.cell? ⟨B + 1 + 1, 2, none⟩ = some (.string ⟨#[]⟩) := by rw [cell_of_row w6 _ 2 _ _ _ hZ_6]; rfl
    have ye2 : w6.frozen? ⟨B + 1 + 1, 2, none⟩ = false := frozen_of_row w6 _ 2 _ _ hZ_6
    have e3 : w6.cell? ⟨B + 1 + 1, 3, none⟩ = some (.int .i64 0) := by rw [cell_of_row w6 _ 3 _ _ _ hZ_6]; rfl
    have ye3 : w6.frozen? ⟨B + 1 + 1, 3, none⟩ = false := frozen_of_row w6 _ 3 _ _ hZ_6
    have e4 : w6.cell? ⟨B + 1 + 1, 4, none⟩ = some (.int .i64 0) := by rw [cell_of_row w6 _ 4 _ _ _ hZ_6]; rfl
    have ye4 : w6.frozen? ⟨B + 1 + 1, 4, none⟩ = false := frozen_of_row w6 _ 4 _ _ hZ_6
    have e5 : w6.cell? ⟨B + 1 + 1, 5, none⟩ = some (.int .i64 0) := by rw [cell_of_row w6 _ 5 _ _ _ hZ_6]; rfl
    have ye5 : w6.frozen? ⟨B + 1 + 1, 5, none⟩ = false := frozen_of_row w6 _ 5 _ _ hZ_6
    have e6 : w6.cell? ⟨B + 1 + 1, 6, none⟩ = some (.string ⟨#[]⟩) := by rw [cell_of_row w6 _ 6 _ _ _ hZ_6]; rfl
    have ye6 : w6.frozen? ⟨B + 1 + 1, 6, none⟩ = false := frozen_of_row w6 _ 6 _ _ hZ_6
    have e7 : w6.cell? ⟨B + 1 + 1, 7, none⟩ = some (.slice none 0 0) := by rw [cell_of_row w6 _ 7 _ _ _ hZ_6]; rfl
    have ye7 : w6.frozen? ⟨B + 1 + 1, 7, none⟩ = false := frozen_of_row w6 _ 7 _ _ hZ_6
    have e8 : w6.cell? ⟨B + 1 + 1, 8, none⟩ = some (.slice none 0 0) := by rw [cell_of_row w6 _ 8 _ _ _ hZ_6]; rfl
    have ye8 : w6.frozen? ⟨B + 1 + 1, 8, none⟩ = false := frozen_of_row w6 _ 8 _ _ hZ_6
    obtain ⟨wz, hwz⟩ : ∃ W, W = (((((((((w6.setCell ⟨B + 1 + 1, 0, none⟩ (.int .i64 x.Pid)).setCell ⟨B + 1 + 1, 1, none⟩ (.string x.Name)).setCell ⟨B + 1 + 1, 2, none⟩ (.string x.Mod)).setCell ⟨B + 1 + 1, 3, none⟩ (.int .i64 x.No)).setCell ⟨B + 1 + 1, 4, none⟩ (.int .i64 x.State.K)).setCell ⟨B + 1 + 1, 5, none⟩ (.int .i64 x.State.N)).setCell ⟨B + 1 + 1, 6, none⟩ (.string x.State.S)).setCell ⟨B + 1 + 1, 7, none⟩ (.slice b7 m7 k7)).setCell ⟨B + 1 + 1, 8, none⟩ (.slice b8 m8 k8)) := ⟨_, rfl⟩
    have nz : wz.heap[B + 1 + 1]? = some (.cells #[.int .i64 x.Pid, .string x.Name, .string x.Mod, .int .i64 x.No, .int .i64 x.State.K, .int .i64 x.State.N, .string x.State.S, .slice b7 m7 k7, .slice b8 m8 k8] 33 (0, 0)) := by
      rw [hwz]
      have zr0 : (w6.setCell ⟨B + 1 + 1, 0, none⟩ (.int .i64 x.Pid)).heap[B + 1 + 1]? = some (.cells #[.int .i64 x.Pid, .string ⟨#[]⟩, .string ⟨#[]⟩, .int .i64 0, .int .i64 0, .int .i64 0, .string ⟨#[]⟩, .slice none 0 0, .slice none 0 0] 33 (0, 0)) := heap_setCell_same _ (B + 1 + 1) 0 _ _ (.int .i64 x.Pid) hZ_6
      have zr1 : ((w6.setCell ⟨B + 1 + 1, 0, none⟩ (.int .i64 x.Pid)).setCell ⟨B + 1 + 1, 1, none⟩ (.string x.Name)).heap[B + 1 + 1]? = some (.cells #[.int .i64 x.Pid, .string x.Name, .string ⟨#[]⟩, .int .i64 0, .int .i64 0, .int .i64 0, .string ⟨#[]⟩, .slice none 0 0, .slice none 0 0] 33 (0, 0)) := heap_setCell_same _ (B + 1 + 1) 1 _ _ (.string x.Name) zr0
      have zr2 : (((w6.setCell ⟨B + 1 + 1, 0, none⟩ (.int .i64 x.Pid)).setCell ⟨B + 1 + 1, 1, none⟩ (.string x.Name)).setCell ⟨B + 1 + 1, 2, none⟩ (.string x.Mod)).heap[B + 1 + 1]? = some (.cells #[.int .i64 x.Pid, .string x.Name, .string x.Mod, .int .i64 0, .int .i64 0, .int .i64 0, .string ⟨#[]⟩, .slice none 0 0, .slice none 0 0] 33 (0, 0)) := heap_setCell_same _ (B + 1 + 1) 2 _ _ (.string x.Mod) zr1
      have zr3 : ((((w6.setCell ⟨B + 1 + 1, 0, none⟩ (.int .i64 x.Pid)).setCell ⟨B + 1 + 1, 1, none⟩ (.string x.Name)).setCell ⟨B + 1 + 1, 2, none⟩ (.string x.Mod)).setCell ⟨B + 1 + 1, 3, none⟩ (.int .i64 x.No)).heap[B + 1 + 1]? = some (.cells #[.int .i64 x.Pid, .string x.Name, .string x.Mod, .int .i64 x.No, .int .i64 0, .int .i64 0, .string ⟨#[]⟩, .slice none 0 0, .slice none 0 0] 33 (0, 0)) := heap_setCell_same _ (B + 1 + 1) 3 _ _ (.int .i64 x.No) zr2
      have zr4 : (((((w6.setCell ⟨B + 1 + 1, 0, none⟩ (.int .i64 x.Pid)).setCell ⟨B + 1 + 1, 1, none⟩ (.string x.Name)).setCell ⟨B + 1 + 1, 2, none⟩ (.string x.Mod)).setCell ⟨B + 1 + 1, 3, none⟩ (.int .i64 x.No)).setCell ⟨B + 1 + 1, 4, none⟩ (.int .i64 x.State.K)).heap[B + 1 + 1]? = some (.cells #[.int .i64 x.Pid, .string x.Name, .string x.Mod, .int .i64 x.No, .int .i64 x.State.K, .int .i64 0, .string ⟨#[]⟩, .slice none 0 0, .slice none 0 0] 33 (0, 0)) := heap_setCell_same _ (B + 1 + 1) 4 _ _ (.int .i64 x.State.K) zr3
      have zr5 : ((((((w6.setCell ⟨B + 1 + 1, 0, none⟩ (.int .i64 x.Pid)).setCell ⟨B + 1 + 1, 1, none⟩ (.string x.Name)).setCell ⟨B + 1 + 1, 2, none⟩ (.string x.Mod)).setCell ⟨B + 1 + 1, 3, none⟩ (.int .i64 x.No)).setCell ⟨B + 1 + 1, 4, none⟩ (.int .i64 x.State.K)).setCell ⟨B + 1 + 1, 5, none⟩ (.int .i64 x.State.N)).heap[B + 1 + 1]? = some (.cells #[.int .i64 x.Pid, .string x.Name, .string x.Mod, .int .i64 x.No, .int .i64 x.State.K, .int .i64 x.State.N, .string ⟨#[]⟩, .slice none 0 0, .slice none 0 0] 33 (0, 0)) := heap_setCell_same _ (B + 1 + 1) 5 _ _ (.int .i64 x.State.N) zr4
      have zr6 : (((((((w6.setCell ⟨B + 1 + 1, 0, none⟩ (.int .i64 x.Pid)).setCell ⟨B + 1 + 1, 1, none⟩ (.string x.Name)).setCell ⟨B + 1 + 1, 2, none⟩ (.string x.Mod)).setCell ⟨B + 1 + 1, 3, none⟩ (.int .i64 x.No)).setCell ⟨B + 1 + 1, 4, none⟩ (.int .i64 x.State.K)).setCell ⟨B + 1 + 1, 5, none⟩ (.int .i64 x.State.N)).setCell ⟨B + 1 + 1, 6, none⟩ (.string x.State.S)).heap[B + 1 + 1]? = some (.cells #[.int .i64 x.Pid, .string x.Name, .string x.Mod, .int .i64 x.No, .int .i64 x.State.K, .int .i64 x.State.N, .string x.State.S, .slice none 0 0, .slice none 0 0] 33 (0, 0)) := heap_setCell_same _ (B + 1 + 1) 6 _ _ (.string x.State.S) zr5
      have zr7 : ((((((((w6.setCell ⟨B + 1 + 1, 0, none⟩ (.int .i64 x.Pid)).setCell ⟨B + 1 + 1, 1, none⟩ (.string x.Name)).setCell ⟨B + 1 + 1, 2, none⟩ (.string x.Mod)).setCell ⟨B + 1 + 1, 3, none⟩ (.int .i64 x.No)).setCell ⟨B + 1 + 1, 4, none⟩ (.int .i64 x.State.K)).setCell ⟨B + 1 + 1, 5, none⟩ (.int .i64 x.State.N)).setCell ⟨B + 1 + 1, 6, none⟩ (.string x.State.S)).setCell ⟨B + 1 + 1, 7, none⟩ (.slice b7 m7 k7)).heap[B + 1 + 1]? = some (.cells #[.int .i64 x.Pid, .string x.Name, .string x.Mod, .int .i64 x.No, .int .i64 x.State.K, .int .i64 x.State.N, .string x.State.S, .slice b7 m7 k7, .slice none 0 0] 33 (0, 0)) := heap_setCell_same _ (B + 1 + 1) 7 _ _ (.slice b7 m7 k7) zr6
      have zr8 : (((((((((w6.setCell ⟨B + 1 + 1, 0, none⟩ (.int .i64 x.Pid)).setCell ⟨B + 1 + 1, 1, none⟩ (.string x.Name)).setCell ⟨B + 1 + 1, 2, none⟩ (.string x.Mod)).setCell ⟨B + 1 + 1, 3, none⟩ (.int .i64 x.No)).setCell ⟨B + 1 + 1, 4, none⟩ (.int .i64 x.State.K)).setCell ⟨B + 1 + 1, 5, none⟩ (.int .i64 x.State.N)).setCell ⟨B + 1 + 1, 6, none⟩ (.string x.State.S)).setCell ⟨B + 1 + 1, 7, none⟩ (.slice b7 m7 k7)).setCell ⟨B + 1 + 1, 8, none⟩ (.slice b8 m8 k8)).heap[B + 1 + 1]? = some (.cells #[.int .i64 x.Pid, .string x.Name, .string x.Mod, .int .i64 x.No, .int .i64 x.State.K, .int .i64 x.State.N, .string x.State.S, .slice b7 m7 k7, .slice b8 m8 k8] 33 (0, 0)) := heap_setCell_same _ (B + 1 + 1) 8 _ _ (.slice b8 m8 k8) zr7
      exact zr8
    have hKz : Kept (B + 1 + 1) (B + 1 + 1 + 1) w6 wz := by
      rw [hwz]
      repeat (first | with_reducible exact Kept.refl _ _ _ | with_reducible refine Kept.drew ?_ | (with_reducible refine Kept.set ?_ ?_; omega))
    have HE : Hid (MwRes x t w (.returned (.tuple #[(.agg #[.int .i64 x.Pid, .string x.Name, .string x.Mod, .int .i64 x.No, .int .i64 x.State.K, .int .i64 x.State.N, .string x.State.S, .slice b7 m7 k7, .slice b8 m8 k8]), .bool false])) wz ∧ wz.heap[B + 1 + 1]? = some (.cells #[.int .i64 x.Pid, .string x.Name, .string x.Mod, .int .i64 x.No, .int .i64 x.State.K, .int .i64 x.State.N, .string x.State.S, .slice b7 m7 k7, .slice b8 m8 k8] 33 (0, 0))) := by
      refine ⟨⟨x, false, _, _, _, _, _, _, _, _, _, rfl, ⟨.inr ⟨rfl, HNO.out, rfl⟩, fun Z hZ => ⟨_, _, _, _, _, rfl, ⟨_, rfl, HRD_6.out.1 Z fun g h1 h2 => (hZ g (by have := HB.out.1; omega) (by have := hKz.size; omega)).trans (hKz.block g h2 (.inr h1))⟩, HRD_6.out.2 Z fun g h1 h2 => (hZ g (by have := HB.out.1; omega) (by have := hKz.size; omega)).trans (hKz.block g h2 (.inr h1))⟩⟩, ?_⟩, nz⟩
      exact HBL_6.out.trans (hKz.below (by have := HB.out.1; omega) HBL_6.out.size)
    have HWZ : Hid (wz = _) := hwz
    clear hwz nz hKz
    go_wp2_with fail
    rw [← HWZ.out]
    refine bodyPost_ret (res_two Try.f12 _ 4 5 (B + 1 + 1) false wz _ _ _ _ _ _ _ _ _ rfl rfl rfl HE.out.2) rfl HE.out.1
  | true =>
    have HPW : Hid (pWorkerOk d x) := HB6.out.1.1 rfl
    have hC := specTermOk_any d t.K t.N t.S (.slice al ll lc) t.L w6 (HR.out w6 HBL_6.out).2 HD.out.2.2.1.2.2.2 (Nat.le_trans HD.out.2.2.1.2.2.1 (by decide))
    go_wp2_with fail
    refine hC.mono ?_
    clear hC q0 q1 q2 q3 q4 q5 q6 q7 q8 t0 t1 t2 t3 hZ_6 hO_6
    rintro e w7 ⟨bt, rfl, hbt, hb7⟩
    have HB7 : Hid ((bt = true ↔ RightT d t) ∧ Below W5.heap.size W5 w7) := ⟨hbt, HB6.out.2.trans (hb7.mono HB6.out.2.size)⟩
    obtain ⟨H0, H1, hZ_7, hO_7, H4, H5, H6, H7⟩ := HST.out w7 HB7.out.2
    have HBL_7 : Hid (Below w.heap.size w w7) := H4
    have HRD_7 : Hid ((∀ Z : World, (∀ g, B + 1 + 1 + 1 ≤ g → g < w7.heap.size → Z.heap[g]? = w7.heap[g]?) → RdL d Z (.slice b7 m7 k7) x.State.L) ∧ (∀ Z : World, (∀ g, B + 1 + 1 + 1 ≤ g → g < w7.heap.size → Z.heap[g]? = w7.heap[g]?) → RdL (d + 1) Z (.slice b8 m8 k8) x.Box)) := by
      obtain ⟨_, _, _, _, o1, _⟩ := H7.own
      obtain ⟨a9, l9, c9, f9, e9, o9, r9, _⟩ := id H7.own
      have hz9 := HZO.out
      refine ⟨fun Z hZ => (H6.frame fun g hg => hZ g ?_ ?_).rd, fun Z hZ => (o9.frame fun g hg => hZ g (by have := (r9.2 g hg).1; omega) (r9.2 g hg).2).rd⟩
      · exact (HZO.out.2.2.2.2.1 g hg).1
      · have := HZO.out.2.2.2.2.1 g hg
        have := HZO.out.2.1
        omega
    have q0 : w7.cell? ⟨B, 0, none⟩ = some (.int .i64 x.Pid) := by rw [cell_of_row w7 _ 0 _ _ _ H0]; rfl
    have q1 : w7.cell? ⟨B, 1, none⟩ = some (.string x.Name) := by rw [cell_of_row w7 _ 1 _ _ _ H0]; rfl
    have q2 : w7.cell? ⟨B, 2, none⟩ = some (.string x.Mod) := by rw [cell_of_row w7 _ 2 _ _ _ H0]; rfl
    have q3 : w7.cell? ⟨B, 3, none⟩ = some (.int .i64 x.No) := by rw [cell_of_row w7 _ 3 _ _ _ H0]; rfl
    have q4 : w7.cell? ⟨B, 4, none⟩ = some (.int .i64 x.State.K) := by rw [cell_of_row w7 _ 4 _ _ _ H0]; rfl
    have q5 : w7.cell? ⟨B, 5, none⟩ = some (.int .i64 x.State.N) := by rw [cell_of_row w7 _ 5 _ _ _ H0]; rfl
    have q6 : w7.cell? ⟨B, 6, none⟩ = some (.string x.State.S) := by rw [cell_of_row w7 _ 6 _ _ _ H0]; rfl
    have q7 : w7.cell? ⟨B, 7, none⟩ = some (.slice a7 l7 c7) := by rw [cell_of_row w7 _ 7 _ _ _ H0]; rfl
    have q8 : w7.cell? ⟨B, 8, none⟩ = some (.slice a8 l8 c8) := by rw [cell_of_row w7 _ 8 _ _ _ H0]; rfl
    have t0 : w7.cell? ⟨B + 1, 0, none⟩ = some (.int .i64 t.K) := by rw [cell_of_row w7 _ 0 _ _ _ H1]; rfl
    have t1 : w7.cell? ⟨B + 1, 1, none⟩ = some (.int .i64 t.N) := by rw [cell_of_row w7 _ 1 _ _ _ H1]; rfl
    have t2 : w7.cell? ⟨B + 1, 2, none⟩ = some (.string t.S) := by rw [cell_of_row w7 _ 2 _ _ _ H1]; rfl
    have t3 : w7.cell? ⟨B + 1, 3, none⟩ = some (.slice al ll lc) := by rw [cell_of_row w7 _ 3 _ _ _ H1]; rfl
    have HS7 : Hid (Made (d + 1) B2 w7 (.slice b8 m8 k8) x.Box f2 ∧ OwnL d w7 (.slice b7 m7 k7) x.State.L f1 ∧ w7.heap[B + 1]? = some (.cells #[.int .i64 t.K, .int .i64 t.N, .string t.S, .slice al ll lc] 31 (0, 0))) := ⟨H7, H6, H1⟩
    clear hbt hb7 H0 H1 H4 H5 H6 H7
    cases bt with
    | false =>
      have HNO : Hid (¬ (pWorkerOk d x ∧ RightT d t ∧ x.Box.length < 20)) := fun h => by have := HB7.out.1.2 h.2.1; cases this
      have o0 : w7.cell? ⟨O, 0, none⟩ = some (.int .i64 x.Pid) := by rw [cell_of_row w7 _ 0 _ _ _ hO_7]; rfl
      have o1 : w7.cell? ⟨O, 1, none⟩ = some (.string x.Name) := by rw [cell_of_row w7 _ 1 _ _ _ hO_7]; rfl
      have o2 : w7.cell? ⟨O, 2, none⟩ = some (.string x.Mod) := by rw [cell_of_row w7 _ 2 _ _ _ hO_7]; rfl
      have o3 : w7.cell? ⟨O, 3, none⟩ = some (.int .i64 x.No) := by rw [cell_of_row w7 _ 3 _ _ _ hO_7]; rfl
      have o4 : w7.cell? ⟨O, 4, none⟩ = some (.int .i64 x.State.K) := by rw [cell_of_row w7 _ 4 _ _ _ hO_7]; rfl
      have o5 : w7.cell? ⟨O, 5, none⟩ = some (.int .i64 x.State.N) := by rw [cell_of_row w7 _ 5 _ _ _ hO_7]; rfl
      have o6 : w7.cell? ⟨O, 6, none⟩ = some (.string x.State.S) := by rw [cell_of_row w7 _ 6 _ _ _ hO_7]; rfl
      have o7 : w7.cell? ⟨O, 7, none⟩ = some (.slice b7 m7 k7) := by rw [cell_of_row w7 _ 7 _ _ _ hO_7]; rfl
      have o8 : w7.cell? ⟨O, 8, none⟩ = some (.slice b8 m8 k8) := by rw [cell_of_row w7 _ 8 _ _ _ hO_7]; rfl
      have e0 : w7.cell? ⟨B + 1 + 1, 0, none⟩ = some (.int .i64 0) := by rw [cell_of_row w7 _ 0 _ _ _ hZ_7]; rfl
      have ye0 : w7.frozen? ⟨B + 1 + 1, 0, none⟩ = false := frozen_of_row w7 _ 0 _ _ hZ_7
      have e1 : w7.cell? ⟨B + 1 + 1, 1, none⟩ = some (.string ⟨#[]⟩) := by rw [cell_of_row w7 _ 1 _ _ _ hZ_7]; rfl
      have ye1 : w7.frozen? ⟨B + 1 + 1, 1, none⟩ = false := frozen_of_row w7 _ 1 _ _ hZ_7
      have e2 : w7.cell? ⟨B + 1 + 1, 2, none⟩ = some (.string ⟨#[]⟩) := by rw [cell_of_row w7 _ 2 _ _ _ hZ_7]; rfl
      have ye2 : w7.frozen? ⟨B + 1 + 1, 2, none⟩ = false := frozen_of_row w7 _ 2 _ _ hZ_7
      have e3 : w7.cell? ⟨B + 1 + 1, 3, none⟩ = some (.int .i64 0) := by rw [cell_of_row w7 _ 3 _ _ _ hZ_7]; rfl
      have ye3 : w7.frozen? ⟨B + 1 + 1, 3, none⟩ = false := frozen_of_row w7 _ 3 _ _ hZ_7
      have e4 : w7.cell? ⟨B + 1 + 1, 4, none⟩ = some (.int .i64 0) := by rw [cell_of_row w7 _ 4 _ _ _ hZ_7]; rfl
      have ye4 : w7.frozen? ⟨B + 1 + 1, 4, none⟩ = false := frozen_of_row w7 _ 4 _ _ hZ_7
      have e5 : w7.cell? ⟨B + 1 + 1, 5, none⟩ = some (.int .i64 0) := by rw [cell_of_row w7 _ 5 _ _ _ hZ_7]; rfl
      have ye5 : w7.frozen? ⟨B + 1 + 1, 5, none⟩ = false := frozen_of_row w7 _ 5 _ _ hZ_7
      have e6 : w7.cell? ⟨B + 1 + 1, 6, none⟩ = some (.string ⟨#[]⟩) := by rw [cell_of_row w7 _ 6 _ _ _ hZ_7]; rfl
      have ye6 : w7.frozen? ⟨B + 1 + 1, 6, none⟩ = false := frozen_of_row w7 _ 6 _ _ hZ_7
      have e7 : w7.cell? ⟨B + 1 + 1, 7, none⟩ = some (.slice none 0 0) := by rw [cell_of_row w7 _ 7 _ _ _ hZ_7]; rfl
      have ye7 : w7.frozen? ⟨B + 1 + 1, 7, none⟩ = false := frozen_of_row w7 _ 7 _ _ hZ_7
      have e8 : w7.cell? ⟨B + 1 + 1, 8, none⟩ = some (.slice none 0 0) := by rw [cell_of_row w7 _ 8 _ _ _ hZ_7]; rfl
      have ye8 : w7.frozen? ⟨B + 1 + 1, 8, none⟩ = false := frozen_of_row w7 _ 8 _ _ hZ_7
      obtain ⟨wz, hwz⟩ : ∃ W, W = (((((((((w7.setCell ⟨B + 1 + 1, 0, none⟩ (.int .i64 x.Pid)).setCell ⟨B + 1 + 1, 1, none⟩ (.string x.Name)).setCell ⟨B + 1 + 1, 2, none⟩ (.string x.Mod)).setCell ⟨B + 1 + 1, 3, none⟩ (.int .i64 x.No)).setCell ⟨B + 1 + 1, 4, none⟩ (.int .i64 x.State.K)).setCell ⟨B + 1 + 1, 5, none⟩ (.int .i64 x.State.N)).setCell ⟨B + 1 + 1, 6, none⟩ (.string x.State.S)).setCell ⟨B + 1 + 1, 7, none⟩ (.slice b7 m7 k7)).setCell ⟨B + 1 + 1, 8, none⟩ (.slice b8 m8 k8)) := ⟨_, rfl⟩
      have nz : wz.heap[B + 1 + 1]? = some (.cells #[.int .i64 x.Pid, .string x.Name, .string x.Mod, .int .i64 x.No, .int .i64 x.State.K, .int .i64 x.State.N, .string x.State.S, .slice b7 m7 k7, .slice b8 m8 k8] 33 (0, 0)) := by
        rw [hwz]
        have zr0 : (w7.setCell ⟨B + 1 + 1, 0, none⟩ (.int .i64 x.Pid)).heap[B + 1 + 1]? = some (.cells #[.int .i64 x.Pid, .string ⟨#[]⟩, .string ⟨#[]⟩, .int .i64 0, .int .i64 0, .int .i64 0, .string ⟨#[]⟩, .slice none 0 0, .slice none 0 0] 33 (0, 0)) := heap_setCell_same _ (B + 1 + 1) 0 _ _ (.int .i64 x.Pid) hZ_7
        have zr1 : ((w7.setCell ⟨B + 1 + 1, 0, none⟩ (.int .i64 x.Pid)).setCell ⟨B + 1 + 1, 1, none⟩ (.string x.Name)).heap[B + 1 + 1]? = some (.cells #[.int .i64 x.Pid, .string x.Name, .string ⟨#[]⟩, .int .i64 0, .int .i64 0, .int .i64 0, .string ⟨#[]⟩, .slice none 0 0, .slice none 0 0] 33 (0, 0)) := heap_setCell_same _ (B + 1 + 1) 1 _ _ (.string x.Name) zr0
        have zr2 : (((w7.setCell ⟨B + 1 + 1, 0, none⟩ (.int .i64 x.Pid)).setCell ⟨B + 1 + 1, 1, none⟩ (.string x.Name)).setCell ⟨B + 1 + 1, 2, none⟩ (.string x.Mod)).heap[B + 1 + 1]? = some (.cells #[.int .i64 x.Pid, .string x.Name, .string x.Mod, .int .i64 0, .int .i64 0, .int .i64 0, .string ⟨#[]⟩, .slice none 0 0, .slice none 0 0] 33 (0, 0)) := heap_setCell_same _ (B + 1 + 1) 2 _ _ (.string x.Mod) zr1
        have zr3 : ((((w7.setCell ⟨B + 1 + 1, 0, none⟩ (.int .i64 x.Pid)).setCell ⟨B + 1 + 1, 1, none⟩ (.string x.Name)).setCell ⟨B + 1 + 1, 2, none⟩ (.string x.Mod)).setCell ⟨B + 1 + 1, 3, none⟩ (.int .i64 x.No)).heap[B + 1 + 1]? = some (.cells #[.int .i64 x.Pid, .string x.Name, .string x.Mod, .int .i64 x.No, .int .i64 0, .int .i64 0, .string ⟨#[]⟩, .slice none 0 0, .slice none 0 0] 33 (0, 0)) := heap_setCell_same _ (B + 1 + 1) 3 _ _ (.int .i64 x.No) zr2
        have zr4 : (((((w7.setCell ⟨B + 1 + 1, 0, none⟩ (.int .i64 x.Pid)).setCell ⟨B + 1 + 1, 1, none⟩ (.string x.Name)).setCell ⟨B + 1 + 1, 2, none⟩ (.string x.Mod)).setCell ⟨B + 1 + 1, 3, none⟩ (.int .i64 x.No)).setCell ⟨B + 1 + 1, 4, none⟩ (.int .i64 x.State.K)).heap[B + 1 + 1]? = some (.cells #[.int .i64 x.Pid, .string x.Name, .string x.Mod, .int .i64 x.No, .int .i64 x.State.K, .int .i64 0, .string ⟨#[]⟩, .slice none 0 0, .slice none 0 0] 33 (0, 0)) := heap_setCell_same _ (B + 1 + 1) 4 _ _ (.int .i64 x.State.K) zr3
        have zr5 : ((((((w7.setCell ⟨B + 1 + 1, 0, none⟩ (.int .i64 x.Pid)).setCell ⟨B + 1 + 1, 1, none⟩ (.string x.Name)).setCell ⟨B + 1 + 1, 2, none⟩ (.string x.Mod)).setCell ⟨B + 1 + 1, 3, none⟩ (.int .i64 x.No)).setCell ⟨B + 1 + 1, 4, none⟩ (.int .i64 x.State.K)).setCell ⟨B + 1 + 1, 5, none⟩ (.int .i64 x.State.N)).heap[B + 1 + 1]? = some (.cells #[.int .i64 x.Pid, .string x.Name, .string x.Mod, .int .i64 x.No, .int .i64 x.State.K, .int .i64 x.State.N, .string ⟨#[]⟩, .slice none 0 0, .slice none 0 0] 33 (0, 0)) := heap_setCell_same _ (B + 1 + 1) 5 _ _ (.int .i64 x.State.N) zr4
        have zr6 : (((((((w7.setCell ⟨B + 1 + 1, 0, none⟩ (.int .i64 x.Pid)).setCell ⟨B + 1 + 1, 1, none⟩ (.string x.Name)).setCell ⟨B + 1 + 1, 2, none⟩ (.string x.Mod)).setCell ⟨B + 1 + 1, 3, none⟩ (.int .i64 x.No)).setCell ⟨B + 1 + 1, 4, none⟩ (.int .i64 x.State.K)).setCell ⟨B + 1 + 1, 5, none⟩ (.int .i64 x.State.N)).setCell ⟨B + 1 + 1, 6, none⟩ (.string x.State.S)).heap[B + 1 + 1]? = some (.cells #[.int .i64 x.Pid, .string x.Name, .string x.Mod, .int .i64 x.No, .int .i64 x.State.K, .int .i64 x.State.N, .string x.State.S, .slice none 0 0, .slice none 0 0] 33 (0, 0)) := heap_setCell_same _ (B + 1 + 1) 6 _ _ (.string x.State.S) zr5
        have zr7 : ((((((((w7.setCell ⟨B + 1 + 1, 0, none⟩ (.int .i64 x.Pid)).setCell ⟨B + 1 + 1, 1, none⟩ (.string x.Name)).setCell ⟨B + 1 + 1, 2, none⟩ (.string x.Mod)).setCell ⟨B + 1 + 1, 3, none⟩ (.int .i64 x.No)).setCell ⟨B + 1 + 1, 4, none⟩ (.int .i64 x.State.K)).setCell ⟨B + 1 + 1, 5, none⟩ (.int .i64 x.State.N)).setCell ⟨B + 1 + 1, 6, none⟩ (.string x.State.S)).setCell ⟨B + 1 + 1, 7, none⟩ (.slice b7 m7 k7)).heap[B + 1 + 1]? = some (.cells #[.int .i64 x.Pid, .string x.Name, .string x.Mod, .int .i64 x.No, .int .i64 x.State.K, .int .i64 x.State.N, .string x.State.S, .slice b7 m7 k7, .slice none 0 0] 33 (0, 0)) := heap_setCell_same _ (B + 1 + 1) 7 _ _ (.slice b7 m7 k7) zr6
        have zr8 : (((((((((w7.setCell ⟨B + 1 + 1, 0, none⟩ (.int .i64 x.Pid)).setCell ⟨B + 1 + 1, 1, none⟩ (.string x.Name)).setCell ⟨B + 1 + 1, 2, none⟩ (.string x.Mod)).setCell ⟨B + 1 + 1, 3, none⟩ (.int .i64 x.No)).setCell ⟨B + 1 + 1, 4, none⟩ (.int .i64 x.State.K)).setCell ⟨B + 1 + 1, 5, none⟩ (.int .i64 x.State.N)).setCell ⟨B + 1 + 1, 6, none⟩ (.string x.State.S)).setCell ⟨B + 1 + 1, 7, none⟩ (.slice b7 m7 k7)).setCell ⟨B + 1 + 1, 8, none⟩ (.slice b8 m8 k8)).heap[B + 1 + 1]? = some (.cells #[.int .i64 x.Pid, .string x.Name, .string x.Mod, .int .i64 x.No, .int .i64 x.State.K, .int .i64 x.State.N, .string x.State.S, .slice b7 m7 k7, .slice b8 m8 k8] 33 (0, 0)) := heap_setCell_same _ (B + 1 + 1) 8 _ _ (.slice b8 m8 k8) zr7
        exact zr8
      have hKz : Kept (B + 1 + 1) (B + 1 + 1 + 1) w7 wz := by
        rw [hwz]
        repeat (first | with_reducible exact Kept.refl _ _ _ | with_reducible refine Kept.drew ?_ | (with_reducible refine Kept.set ?_ ?_; omega))
      have HE : Hid (MwRes x t w (.returned (.tuple #[(.agg #[.int .i64 x.Pid, .string x.Name, .string x.Mod, .int .i64 x.No, .int .i64 x.State.K, .int .i64 x.State.N, .string x.State.S, .slice b7 m7 k7, .slice b8 m8 k8]), .bool false])) wz ∧ wz.heap[B + 1 + 1]? = some (.cells #[.int .i64 x.Pid, .string x.Name, .string x.Mod, .int .i64 x.No, .int .i64 x.State.K, .int .i64 x.State.N, .string x.State.S, .slice b7 m7 k7, .slice b8 m8 k8] 33 (0, 0))) := by
        refine ⟨⟨x, false, _, _, _, _, _, _, _, _, _, rfl, ⟨.inr ⟨rfl, HNO.out, rfl⟩, fun Z hZ => ⟨_, _, _, _, _, rfl, ⟨_, rfl, HRD_7.out.1 Z fun g h1 h2 => (hZ g (by have := HB.out.1; omega) (by have := hKz.size; omega)).trans (hKz.block g h2 (.inr h1))⟩, HRD_7.out.2 Z fun g h1 h2 => (hZ g (by have := HB.out.1; omega) (by have := hKz.size; omega)).trans (hKz.block g h2 (.inr h1))⟩⟩, ?_⟩, nz⟩
        exact HBL_7.out.trans (hKz.below (by have := HB.out.1; omega) HBL_7.out.size)
      have HWZ : Hid (wz = _) := hwz
      clear hwz nz hKz
      go_wp2_with fail
      rw [← HWZ.out]
      refine bodyPost_ret (res_two Try.f12 _ 4 5 (B + 1 + 1) false wz _ _ _ _ _ _ _ _ _ rfl rfl rfl HE.out.2) rfl HE.out.1
    | true =>
      have HRT : Hid (RightT d t) := HB7.out.1.1 rfl
      have hl8 : l8 ≤ 1048576 := by have := HB.out; have := HD.out; omega
      by_cases h20 : l8 = 20
      · have HNO : Hid (¬ (pWorkerOk d x ∧ RightT d t ∧ x.Box.length < 20)) := fun h => by have := HB.out.2.2; omega
        subst h20
        have o0 : w7.cell? ⟨O, 0, none⟩ = some (.int .i64 x.Pid) := by rw [cell_of_row w7 _ 0 _ _ _ hO_7]; rfl
        have o1 : w7.cell? ⟨O, 1, none⟩ = some (.string x.Name) := by rw [cell_of_row w7 _ 1 _ _ _ hO_7]; rfl
        have o2 : w7.cell? ⟨O, 2, none⟩ = some (.string x.Mod) := by rw [cell_of_row w7 _ 2 _ _ _ hO_7]; rfl
        have o3 : w7.cell? ⟨O, 3, none⟩ = some (.int .i64 x.No) := by rw [cell_of_row w7 _ 3 _ _ _ hO_7]; rfl
        have o4 : w7.cell? ⟨O, 4, none⟩ = some (.int .i64 x.State.K) := by rw [cell_of_row w7 _ 4 _ _ _ hO_7]; rfl
        have o5 : w7.cell? ⟨O, 5, none⟩ = some (.int .i64 x.State.N) := by rw [cell_of_row w7 _ 5 _ _ _ hO_7]; rfl
        have o6 : w7.cell? ⟨O, 6, none⟩ = some (.string x.State.S) := by rw [cell_of_row w7 _ 6 _ _ _ hO_7]; rfl
        have o7 : w7.cell? ⟨O, 7, none⟩ = some (.slice b7 m7 k7) := by rw [cell_of_row w7 _ 7 _ _ _ hO_7]; rfl
        have o8 : w7.cell? ⟨O, 8, none⟩ = some (.slice b8 m8 k8) := by rw [cell_of_row w7 _ 8 _ _ _ hO_7]; rfl
        have e0 : w7.cell? ⟨B + 1 + 1, 0, none⟩ = some (.int .i64 0) := by rw [cell_of_row w7 _ 0 _ _ _ hZ_7]; rfl
        have ye0 : w7.frozen? ⟨B + 1 + 1, 0, none⟩ = false := frozen_of_row w7 _ 0 _ _ hZ_7
        have e1 : w7.cell? ⟨B + 1 + 1, 1, none⟩ = some (.string ⟨#[]⟩) := by rw [cell_of_row w7 _ 1 _ _ _ hZ_7]; rfl
        have ye1 : w7.frozen? ⟨B + 1 + 1, 1, none⟩ = false := frozen_of_row w7 _ 1 _ _ hZ_7
        have e2 : w7.cell? ⟨B + 1 + 1, 2, none⟩ = some (.string ⟨#[]⟩) := by rw [cell_of_row w7 _ 2 _ _ _ hZ_7]; rfl
        have ye2 : w7.frozen? ⟨B + 1 + 1, 2, none⟩ = false := frozen_of_row w7 _ 2 _ _ hZ_7
        have e3 : w7.cell? ⟨B + 1 + 1, 3, none⟩ = some (.int .i64 0) := by rw [cell_of_row w7 _ 3 _ _ _ hZ_7]; rfl
        have ye3 : w7.frozen? ⟨B + 1 + 1, 3, none⟩ = false := frozen_of_row w7 _ 3 _ _ hZ_7
        have e4 : w7.cell? ⟨B + 1 + 1, 4, none⟩ = some (.int .i64 0) := by rw [cell_of_row w7 _ 4 _ _ _ hZ_7]; rfl
        have ye4 : w7.frozen? ⟨B + 1 + 1, 4, none⟩ = false := frozen_of_row w7 _ 4 _ _ hZ_7
        have e5 : w7.cell? ⟨B + 1 + 1, 5, none⟩ = some (.int .i64 0) := by rw [cell_of_row w7 _ 5 _ _ _ hZ_7]; rfl
        have ye5 : w7.frozen? ⟨B + 1 + 1, 5, none⟩ = false := frozen_of_row w7 _ 5 _ _ hZ_7
        have e6 : w7.cell? ⟨B + 1 + 1, 6, none⟩ = some (.string ⟨#[]⟩) := by rw [cell_of_row w7 _ 6 _ _ _ hZ_7]; rfl
        have ye6 : w7.frozen? ⟨B + 1 + 1, 6, none⟩ = false := frozen_of_row w7 _ 6 _ _ hZ_7
        have e7 : w7.cell? ⟨B + 1 + 1, 7, none⟩ = some (.slice none 0 0) := by rw [cell_of_row w7 _ 7 _ _ _ hZ_7]; rfl
        have ye7 : w7.frozen? ⟨B + 1 + 1, 7, none⟩ = false := frozen_of_row w7 _ 7 _ _ hZ_7
        have e8 : w7.cell? ⟨B + 1 + 1, 8, none⟩ = some (.slice none 0 0) := by rw [cell_of_row w7 _ 8 _ _ _ hZ_7]; rfl
        have ye8 : w7.frozen? ⟨B + 1 + 1, 8, none⟩ = false := frozen_of_row w7 _ 8 _ _ hZ_7
        obtain ⟨wz, hwz⟩ : ∃ W, W = (((((((((w7.setCell ⟨B + 1 + 1, 0, none⟩ (.int .i64 x.Pid)).setCell ⟨B + 1 + 1, 1, none⟩ (.string x.Name)).setCell ⟨B + 1 + 1, 2, none⟩ (.string x.Mod)).setCell ⟨B + 1 + 1, 3, none⟩ (.int .i64 x.No)).setCell ⟨B + 1 + 1, 4, none⟩ (.int .i64 x.State.K)).setCell ⟨B + 1 + 1, 5, none⟩ (.int .i64 x.State.N)).setCell ⟨B + 1 + 1, 6, none⟩ (.string x.State.S)).setCell ⟨B + 1 + 1, 7, none⟩ (.slice b7 m7 k7)).setCell ⟨B + 1 + 1, 8, none⟩ (.slice b8 m8 k8)) := ⟨_, rfl⟩
        have nz : wz.heap[B + 1 + 1]? = some (.cells #[.int .i64 x.Pid, .string x.Name, .string x.Mod, .int .i64 x.No, .int .i64 x.State.K, .int .i64 x.State.N, .string x.State.S, .slice b7 m7 k7, .slice b8 m8 k8] 33 (0, 0)) := by
          rw [hwz]
          have zr0 : (w7.setCell ⟨B + 1 + 1, 0, none⟩ (.int .i64 x.Pid)).heap[B + 1 + 1]? = some (.cells #[.int .i64 x.Pid, .string ⟨#[]⟩, .string ⟨#[]⟩, .int .i64 0, .int .i64 0, .int .i64 0, .string ⟨#[]⟩, .slice none 0 0, .slice none 0 0] 33 (0, 0)) := heap_setCell_same _ (B + 1 + 1) 0 _ _ (.int .i64 x.Pid) hZ_7
          have zr1 : ((w7.setCell ⟨B + 1 + 1, 0, none⟩ (.int .i64 x.Pid)).setCell ⟨B + 1 + 1, 1, none⟩ (.string x.Name)).heap[B + 1 + 1]? = some (.cells #[.int .i64 x.Pid, .string x.Name, .string ⟨#[]⟩, .int .i64 0, .int .i64 0, .int .i64 0, .string ⟨#[]⟩, .slice none 0 0, .slice none 0 0] 33 (0, 0)) := heap_setCell_same _ (B + 1 + 1) 1 _ _ (.string x.Name) zr0
          have zr2 : (((w7.setCell ⟨B + 1 + 1, 0, none⟩ (.int .i64 x.Pid)).setCell ⟨B + 1 + 1, 1, none⟩ (.string x.Name)).setCell ⟨B + 1 + 1, 2, none⟩ (.string x.Mod)).heap[B + 1 + 1]? = some (.cells #[.int .i64 x.Pid, .string x.Name, .string x.Mod, .int .i64 0, .int .i64 0, .int .i64 0, .string ⟨#[]⟩, .slice none 0 0, .slice none 0 0] 33 (0, 0)) := heap_setCell_same _ (B + 1 + 1) 2 _ _ (.string x.Mod) zr1
          have zr3 : ((((w7.setCell ⟨B + 1 + 1, 0, none⟩ (.int .i64 x.Pid)).setCell ⟨B + 1 + 1, 1, none⟩ (.string x.Name)).setCell ⟨B + 1 + 1, 2, none⟩ (.string x.Mod)).setCell ⟨B + 1 + 1, 3, none⟩ (.int .i64 x.No)).heap[B + 1 + 1]? = some (.cells #[.int .i64 x.Pid, .string x.Name, .string x.Mod, .int .i64 x.No, .int .i64 0, .int .i64 0, .string ⟨#[]⟩, .slice none 0 0, .slice none 0 0] 33 (0, 0)) := heap_setCell_same _ (B + 1 + 1) 3 _ _ (.int .i64 x.No) zr2
          have zr4 : (((((w7.setCell ⟨B + 1 + 1, 0, none⟩ (.int .i64 x.Pid)).setCell ⟨B + 1 + 1, 1, none⟩ (.string x.Name)).setCell ⟨B + 1 + 1, 2, none⟩ (.string x.Mod)).setCell ⟨B + 1 + 1, 3, none⟩ (.int .i64 x.No)).setCell ⟨B + 1 + 1, 4, none⟩ (.int .i64 x.State.K)).heap[B + 1 + 1]? = some (.cells #[.int .i64 x.Pid, .string x.Name, .string x.Mod, .int .i64 x.No, .int .i64 x.State.K, .int .i64 0, .string ⟨#[]⟩, .slice none 0 0, .slice none 0 0] 33 (0, 0)) := heap_setCell_same _ (B + 1 + 1) 4 _ _ (.int .i64 x.State.K) zr3
          have zr5 : ((((((w7.setCell ⟨B + 1 + 1, 0, none⟩ (.int .i64 x.Pid)).setCell ⟨B + 1 + 1, 1, none⟩ (.string x.Name)).setCell ⟨B + 1 + 1, 2, none⟩ (.string x.Mod)).setCell ⟨B + 1 + 1, 3, none⟩ (.int .i64 x.No)).setCell ⟨B + 1 + 1, 4, none⟩ (.int .i64 x.State.K)).setCell ⟨B + 1 + 1, 5, none⟩ (.int .i64 x.State.N)).heap[B + 1 + 1]? = some (.cells #[.int .i64 x.Pid, .string x.Name, .string x.Mod, .int .i64 x.No, .int .i64 x.State.K, .int .i64 x.State.N, .string ⟨#[]⟩, .slice none 0 0, .slice none 0 0] 33 (0, 0)) := heap_setCell_same _ (B + 1 + 1) 5 _ _ (.int .i64 x.State.N) zr4
          have zr6 : (((((((w7.setCell ⟨B + 1 + 1, 0, none⟩ (.int .i64 x.Pid)).setCell ⟨B + 1 + 1, 1, none⟩ (.string x.Name)).setCell ⟨B + 1 + 1, 2, none⟩ (.string x.Mod)).setCell ⟨B + 1 + 1, 3, none⟩ (.int .i64 x.No)).setCell ⟨B + 1 + 1, 4, none⟩ (.int .i64 x.State.K)).setCell ⟨B + 1 + 1, 5, none⟩ (.int .i64 x.State.N)).setCell ⟨B + 1 + 1, 6, none⟩ (.string x.State.S)).heap[B + 1 + 1]? = some (.cells #[.int .i64 x.Pid, .string x.Name, .string x.Mod, .int .i64 x.No, .int .i64 x.State.K, .int .i64 x.State.N, .string x.State.S, .slice none 0 0, .slice none 0 0] 33 (0, 0)) := heap_setCell_same _ (B + 1 + 1) 6 _ _ (.string x.State.S) zr5
          have zr7 : ((((((((w7.setCell ⟨B + 1 + 1, 0, none⟩ (.int .i64 x.Pid)).setCell ⟨B + 1 + 1, 1, none⟩ (.string x.Name)).setCell ⟨B + 1 + 1, 2, none⟩ (.string x.Mod)).setCell ⟨B + 1 + 1, 3, none⟩ (.int .i64 x.No)).setCell ⟨B + 1 + 1, 4, none⟩ (.int .i64 x.State.K)).setCell ⟨B + 1 + 1, 5, none⟩ (.int .i64 x.State.N)).setCell ⟨B + 1 + 1, 6, none⟩ (.string x.State.S)).setCell ⟨B + 1 + 1, 7, none⟩ (.slice b7 m7 k7)).heap[B + 1 + 1]? = some (.cells #[.int .i64 x.Pid, .string x.Name, .string x.Mod, .int .i64 x.No, .int .i64 x.State.K, .int .i64 x.State.N, .string x.State.S, .slice b7 m7 k7, .slice none 0 0] 33 (0, 0)) := heap_setCell_same _ (B + 1 + 1) 7 _ _ (.slice b7 m7 k7) zr6
          have zr8 : (((((((((w7.setCell ⟨B + 1 + 1, 0, none⟩ (.int .i64 x.Pid)).setCell ⟨B + 1 + 1, 1, none⟩ (.string x.Name)).setCell ⟨B + 1 + 1, 2, none⟩ (.string x.Mod)).setCell ⟨B + 1 + 1, 3, none⟩ (.int .i64 x.No)).setCell ⟨B + 1 + 1, 4, none⟩ (.int .i64 x.State.K)).setCell ⟨B + 1 + 1, 5, none⟩ (.int .i64 x.State.N)).setCell ⟨B + 1 + 1, 6, none⟩ (.string x.State.S)).setCell ⟨B + 1 + 1, 7, none⟩ (.slice b7 m7 k7)).setCell ⟨B + 1 + 1, 8, none⟩ (.slice b8 m8 k8)).heap[B + 1 + 1]? = some (.cells #[.int .i64 x.Pid, .string x.Name, .string x.Mod, .int .i64 x.No, .int .i64 x.State.K, .int .i64 x.State.N, .string x.State.S, .slice b7 m7 k7, .slice b8 m8 k8] 33 (0, 0)) := heap_setCell_same _ (B + 1 + 1) 8 _ _ (.slice b8 m8 k8) zr7
          exact zr8
        have hKz : Kept (B + 1 + 1) (B + 1 + 1 + 1) w7 wz := by
          rw [hwz]
          repeat (first | with_reducible exact Kept.refl _ _ _ | with_reducible refine Kept.drew ?_ | (with_reducible refine Kept.set ?_ ?_; omega))
        have HE : Hid (MwRes x t w (.returned (.tuple #[(.agg #[.int .i64 x.Pid, .string x.Name, .string x.Mod, .int .i64 x.No, .int .i64 x.State.K, .int .i64 x.State.N, .string x.State.S, .slice b7 m7 k7, .slice b8 m8 k8]), .bool false])) wz ∧ wz.heap[B + 1 + 1]? = some (.cells #[.int .i64 x.Pid, .string x.Name, .string x.Mod, .int .i64 x.No, .int .i64 x.State.K, .int .i64 x.State.N, .string x.State.S, .slice b7 m7 k7, .slice b8 m8 k8] 33 (0, 0))) := by
          refine ⟨⟨x, false, _, _, _, _, _, _, _, _, _, rfl, ⟨.inr ⟨rfl, HNO.out, rfl⟩, fun Z hZ => ⟨_, _, _, _, _, rfl, ⟨_, rfl, HRD_7.out.1 Z fun g h1 h2 => (hZ g (by have := HB.out.1; omega) (by have := hKz.size; omega)).trans (hKz.block g h2 (.inr h1))⟩, HRD_7.out.2 Z fun g h1 h2 => (hZ g (by have := HB.out.1; omega) (by have := hKz.size; omega)).trans (hKz.block g h2 (.inr h1))⟩⟩, ?_⟩, nz⟩
          exact HBL_7.out.trans (hKz.below (by have := HB.out.1; omega) HBL_7.out.size)
        have HWZ : Hid (wz = _) := hwz
        clear hwz nz hKz
        go_wp2_with fail
        rw [← HWZ.out]
        refine bodyPost_ret (res_two Try.f12 _ 4 5 (B + 1 + 1) false wz _ _ _ _ _ _ _ _ _ rfl rfl rfl HE.out.2) rfl HE.out.1
      · have hlt : x.Box.length < 20 := by have h1 := HPW.out.2.2.2.2.2.2; have := HB.out.2.2; omega
        have HYES : Hid (pWorkerOk d x ∧ RightT d t ∧ x.Box.length < 20) := ⟨HPW.out, HRT.out, hlt⟩
        have h20' : ((l8 : Int) = 20) = False := by simp; omega
        have h20d : decide ((l8 : Int) = 20) = false := by simp; omega
        obtain ⟨i0, hi, hi0, hi1, hi2⟩ := info_parts Try.infoTerm
        obtain ⟨j, hj⟩ : ∃ j, x.Box.length = j := ⟨_, rfl⟩
        obtain ⟨cs, hcs⟩ := made_row HS7.out.1
        rw [hj] at hcs hlt
        have hCP := l2Copy_any d t.K t.N t.S (.slice al ll lc) t.L
        have HCP : Hid (∀ V : World, Below w7.heap.size w7 V → Calls Try.prog 34 #[.agg #[.int .i64 t.K, .int .i64 t.N, .string t.S, .slice al ll lc]] V fun e w' => ∃ a2 l2 c2 f2, e = .returned (.agg #[.int .i64 t.K, .int .i64 t.N, .string t.S, .slice a2 l2 c2]) ∧ Hid (Made d (V.heap.size + 1 + 1 + 1) w' (.slice a2 l2 c2) t.L f2) ∧ Below V.heap.size V w') := fun V hV => l2Copy_any d t.K t.N t.S (.slice al ll lc) t.L V (HR.out V (HBL_7.out.trans (hV.mono HBL_7.out.size))).2 HD.out.2.2.1.2.2.2 HD.out.2.2.2.1
        have HAFT : Hid (∀ (w' : World) (a2 : Option Addr) (l2 c2 : Nat) (f3 : List Nat), Made d (w7.heap.size + 1 + 1 + 1) w' (.slice a2 l2 c2) t.L f3 → Below w7.heap.size w7 w' → _) := fun w' a2 l2 c2 f3 hP hbw => pm_aft (B := B) (w := w) HS7.out.1 hcs hj (by omega) HZO.out.2.2.2.2.2 hO_7 HZO.out.2.1 HD.out.2.2.1 HS7.out.2.1 HZO.out.2.2.2.2.1 HZO.out.2.2.2.1 HB.out.1 HBL_7.out hP hbw
        have o8 : w7.cell? ⟨O, 8, none⟩ = some (.slice b8 m8 k8) := by rw [cell_of_row w7 _ 8 _ _ _ hO_7]; rfl
        have HZ7 : Hid (w7.heap[B + 1 + 1]? = _) := hZ_7
        have HJ : Hid (x.Box.length = j ∧ j < 20) := ⟨hj, hlt⟩
        clear hj hcs hCP hZ_7 hO_7
        go_wp2_with fail
        go_region_law (first
          | (refine step_append_own rfl (.tmp 25) (.tmp 28) 29 rfl B2 31 i0 (.agg #[.int .i64 0, .int .i64 0, .string ⟨#[]⟩, .slice none 0 0]) 4 56 Try.underlying29 hi hi0 hi1 hi2 rfl (by decide) (.slice b8 m8 k8) j cs (by simp [Act.eval]) (hcs'.alloc _) ⟨w'.heap.size, 0, none⟩ 1 1 [.int .i64 t.K, .int .i64 t.N, .string t.S, .slice a2 l2 c2] (by simp [Act.eval]) rfl (four_new w' _ _ _ _ _) (by intro u hu; simp at hu; rcases hu with rfl | rfl | rfl | rfl <;> rfl) (by unfold maxLen; omega) (by omega) (by have := HZO.out.2.1; simp; omega) ?_; intro v' w2 hown2 hgrow2 hat; obtain ⟨av2, lv2, cv2, rfl⟩ := row_slice hown2; obtain ⟨v3, v3', HM2⟩ := HA.out w2 av2 lv2 cv2 hown2 hgrow2 hat)
          | (go_simp; go_at_call 34; refine (HCP.out _ (by first | exact (Below.refl _ _).drew | exact Below.refl _ _)).mono ?_; rintro e w' ⟨a2, l2, c2, f3, rfl, HP0, hbw⟩; have hbw' : Below w7.heap.size w7 w' := (by first | exact hbw | exact (Below.refl _ _).drew.trans hbw); obtain ⟨t3', hTz', hcs', HA⟩ := HAFT.out w' a2 l2 c2 f3 HP0.out hbw'))
        all_goals
          clear hown2 hgrow2 hat HA hcs' hbw hbw'
          obtain ⟨w8, hw8⟩ : ∃ W, W = w2.setCell ⟨O, 8, none⟩ (.slice av2 lv2 cv2) := ⟨_, rfl⟩
          rw [← hw8] at HM2
          have HW8 : Hid (w8 = _) := hw8
          rw [← hw8]
          obtain ⟨hO_8, hZ_8', hb8, hs8, hx8⟩ := HM2.out
          have hZ_8 := hZ_8'.trans HZ7.out
          have HBL_8 : Hid (Below w.heap.size w w8) := hb8
          have HRD_8 : Hid ((∀ Z : World, (∀ g, B + 1 + 1 + 1 ≤ g → g < w8.heap.size → Z.heap[g]? = w8.heap[g]?) → RdL d Z (.slice b7 m7 k7) x.State.L) ∧ (∀ Z : World, (∀ g, B + 1 + 1 + 1 ≤ g → g < w8.heap.size → Z.heap[g]? = w8.heap[g]?) → RdL (d + 1) Z (.slice av2 lv2 cv2) (x.Box ++ [t]))) := ⟨hs8, hx8⟩
          clear hZ_8' hb8 hs8 hx8 HM2 hw8 HW8
          have o0 : w8.cell? ⟨O, 0, none⟩ = some (.int .i64 x.Pid) := by rw [cell_of_row w8 _ 0 _ _ _ hO_8]; rfl
          have o1 : w8.cell? ⟨O, 1, none⟩ = some (.string x.Name) := by rw [cell_of_row w8 _ 1 _ _ _ hO_8]; rfl
          have o2 : w8.cell? ⟨O, 2, none⟩ = some (.string x.Mod) := by rw [cell_of_row w8 _ 2 _ _ _ hO_8]; rfl
          have o3 : w8.cell? ⟨O, 3, none⟩ = some (.int .i64 x.No) := by rw [cell_of_row w8 _ 3 _ _ _ hO_8]; rfl
          have o4 : w8.cell? ⟨O, 4, none⟩ = some (.int .i64 x.State.K) := by rw [cell_of_row w8 _ 4 _ _ _ hO_8]; rfl
          have o5 : w8.cell? ⟨O, 5, none⟩ = some (.int .i64 x.State.N) := by rw [cell_of_row w8 _ 5 _ _ _ hO_8]; rfl
          have o6 : w8.cell? ⟨O, 6, none⟩ = some (.string x.State.S) := by rw [cell_of_row w8 _ 6 _ _ _ hO_8]; rfl
          have o7 : w8.cell? ⟨O, 7, none⟩ = some (.slice b7 m7 k7) := by rw [cell_of_row w8 _ 7 _ _ _ hO_8]; rfl
          have o8 : w8.cell? ⟨O, 8, none⟩ = some (.slice av2 lv2 cv2) := by rw [cell_of_row w8 _ 8 _ _ _ hO_8]; rfl
          have e0 : w8.cell? ⟨B + 1 + 1, 0, none⟩ = some (.int .i64 0) := by rw [cell_of_row w8 _ 0 _ _ _ hZ_8]; rfl
          have ye0 : w8.frozen? ⟨B + 1 + 1, 0, none⟩ = false := frozen_of_row w8 _ 0 _ _ hZ_8
          have e1 : w8.cell? ⟨B + 1 + 1, 1, none⟩ = some (.string ⟨#[]⟩) := by rw [cell_of_row w8 _ 1 _ _ _ hZ_8]; rfl
          have ye1 : w8.frozen? ⟨B + 1 + 1, 1, none⟩ = false := frozen_of_row w8 _ 1 _ _ hZ_8
          have e2 : w8.cell? ⟨B + 1 + 1, 2, none⟩ = some (.string ⟨#[]⟩) := by rw [cell_of_row w8 _ 2 _ _ _ hZ_8]; rfl
          have ye2 : w8.frozen? ⟨B + 1 + 1, 2, none⟩ = false := frozen_of_row w8 _ 2 _ _ hZ_8
          have e3 : w8.cell? ⟨B + 1 + 1, 3, none⟩ = some (.int .i64 0) := by rw [cell_of_row w8 _ 3 _ _ _ hZ_8]; rfl
          have ye3 : w8.frozen? ⟨B + 1 + 1, 3, none⟩ = false := frozen_of_row w8 _ 3 _ _ hZ_8
          have e4 : w8.cell? ⟨B + 1 + 1, 4, none⟩ = some (.int .i64 0) := by rw [cell_of_row w8 _ 4 _ _ _ hZ_8]; rfl
          have ye4 : w8.frozen? ⟨B + 1 + 1, 4, none⟩ = false := frozen_of_row w8 _ 4 _ _ hZ_8
          have e5 : w8.cell? ⟨B + 1 + 1, 5, none⟩ = some (.int .i64 0) := by rw [cell_of_row w8 _ 5 _ _ _ hZ_8]; rfl
          have ye5 : w8.frozen? ⟨B + 1 + 1, 5, none⟩ = false := frozen_of_row w8 _ 5 _ _ hZ_8
          have e6 : w8.cell? ⟨B + 1 + 1, 6, none⟩ = some (.string ⟨#[]⟩) := by rw [cell_of_row w8 _ 6 _ _ _ hZ_8]; rfl
          have ye6 : w8.frozen? ⟨B + 1 + 1, 6, none⟩ = false := frozen_of_row w8 _ 6 _ _ hZ_8
          have e7 : w8.cell? ⟨B + 1 + 1, 7, none⟩ = some (.slice none 0 0) := by rw [cell_of_row w8 _ 7 _ _ _ hZ_8]; rfl
          have ye7 : w8.frozen? ⟨B + 1 + 1, 7, none⟩ = false := frozen_of_row w8 _ 7 _ _ hZ_8
          have e8 : w8.cell? ⟨B + 1 + 1, 8, none⟩ = some (.slice none 0 0) := by rw [cell_of_row w8 _ 8 _ _ _ hZ_8]; rfl
          have ye8 : w8.frozen? ⟨B + 1 + 1, 8, none⟩ = false := frozen_of_row w8 _ 8 _ _ hZ_8
          obtain ⟨wz, hwz⟩ : ∃ W, W = (((((((((w8.setCell ⟨B + 1 + 1, 0, none⟩ (.int .i64 x.Pid)).setCell ⟨B + 1 + 1, 1, none⟩ (.string x.Name)).setCell ⟨B + 1 + 1, 2, none⟩ (.string x.Mod)).setCell ⟨B + 1 + 1, 3, none⟩ (.int .i64 x.No)).setCell ⟨B + 1 + 1, 4, none⟩ (.int .i64 x.State.K)).setCell ⟨B + 1 + 1, 5, none⟩ (.int .i64 x.State.N)).setCell ⟨B + 1 + 1, 6, none⟩ (.string x.State.S)).setCell ⟨B + 1 + 1, 7, none⟩ (.slice b7 m7 k7)).setCell ⟨B + 1 + 1, 8, none⟩ (.slice av2 lv2 cv2)) := ⟨_, rfl⟩
          have nz : wz.heap[B + 1 + 1]? = some (.cells #[.int .i64 x.Pid, .string x.Name, .string x.Mod, .int .i64 x.No, .int .i64 x.State.K, .int .i64 x.State.N, .string x.State.S, .slice b7 m7 k7, .slice av2 lv2 cv2] 33 (0, 0)) := by
            rw [hwz]
            have zr0 : (w8.setCell ⟨B + 1 + 1, 0, none⟩ (.int .i64 x.Pid)).heap[B + 1 + 1]? = some (.cells #[.int .i64 x.Pid, .string ⟨#[]⟩, .string ⟨#[]⟩, .int .i64 0, .int .i64 0, .int .i64 0, .string ⟨#[]⟩, .slice none 0 0, .slice none 0 0] 33 (0, 0)) := heap_setCell_same _ (B + 1 + 1) 0 _ _ (.int .i64 x.Pid) hZ_8
            have zr1 : ((w8.setCell ⟨B + 1 + 1, 0, none⟩ (.int .i64 x.Pid)).setCell ⟨B + 1 + 1, 1, none⟩ (.string x.Name)).heap[B + 1 + 1]? = some (.cells #[.int .i64 x.Pid, .string x.Name, .string ⟨#[]⟩, .int .i64 0, .int .i64 0, .int .i64 0, .string ⟨#[]⟩, .slice none 0 0, .slice none 0 0] 33 (0, 0)) := heap_setCell_same _ (B + 1 + 1) 1 _ _ (.string x.Name) zr0
            have zr2 : (((w8.setCell ⟨B + 1 + 1, 0, none⟩ (.int .i64 x.Pid)).setCell ⟨B + 1 + 1, 1, none⟩ (.string x.Name)).setCell ⟨B + 1 + 1, 2, none⟩ (.string x.Mod)).heap[B + 1 + 1]? = some (.cells #[.int .i64 x.Pid, .string x.Name, .string x.Mod, .int .i64 0, .int .i64 0, .int .i64 0, .string ⟨#[]⟩, .slice none 0 0, .slice none 0 0] 33 (0, 0)) := heap_setCell_same _ (B + 1 + 1) 2 _ _ (.string x.Mod) zr1
            have zr3 : ((((w8.setCell ⟨B + 1 + 1, 0, none⟩ (.int .i64 x.Pid)).setCell ⟨B + 1 + 1, 1, none⟩ (.string x.Name)).setCell ⟨B + 1 + 1, 2, none⟩ (.string x.Mod)).setCell ⟨B + 1 + 1, 3, none⟩ (.int .i64 x.No)).heap[B + 1 + 1]? = some (.cells #[.int .i64 x.Pid, .string x.Name, .string x.Mod, .int .i64 x.No, .int .i64 0, .int .i64 0, .string ⟨#[]⟩, .slice none 0 0, .slice none 0 0] 33 (0, 0)) := heap_setCell_same _ (B + 1 + 1) 3 _ _ (.int .i64 x.No) zr2
            have zr4 : (((((w8.setCell ⟨B + 1 + 1, 0, none⟩ (.int .i64 x.Pid)).setCell ⟨B + 1 + 1, 1, none⟩ (.string x.Name)).setCell ⟨B + 1 + 1, 2, none⟩ (.string x.Mod)).setCell ⟨B + 1 + 1, 3, none⟩ (.int .i64 x.No)).setCell ⟨B + 1 + 1, 4, none⟩ (.int .i64 x.State.K)).heap[B + 1 + 1]? = some (.cells #[.int .i64 x.Pid, .string x.Name, .string x.Mod, .int .i64 x.No, .int .i64 x.State.K, .int .i64 0, .string ⟨#[]⟩, .slice none 0 0, .slice none 0 0] 33 (0, 0)) := heap_setCell_same _ (B + 1 + 1) 4 _ _ (.int .i64 x.State.K) zr3
            have zr5 : ((((((w8.setCell ⟨B + 1 + 1, 0, none⟩ (.int .i64 x.Pid)).setCell ⟨B + 1 + 1, 1, none⟩ (.string x.Name)).setCell ⟨B + 1 + 1, 2, none⟩ (.string x.Mod)).setCell ⟨B + 1 + 1, 3, none⟩ (.int .i64 x.No)).setCell ⟨B + 1 + 1, 4, none⟩ (.int .i64 x.State.K)).setCell ⟨B + 1 + 1, 5, none⟩ (.int .i64 x.State.N)).heap[B + 1 + 1]? = some (.cells #[.int .i64 x.Pid, .string x.Name, .string x.Mod, .int .i64 x.No, .int .i64 x.State.K, .int .i64 x.State.N, .string ⟨#[]⟩, .slice none 0 0, .slice none 0 0] 33 (0, 0)) := heap_setCell_same _ (B + 1 + 1) 5 _ _ (.int .i64 x.State.N) zr4
            have zr6 : (((((((w8.setCell ⟨B + 1 + 1, 0, none⟩ (.int .i64 x.Pid)).setCell ⟨B + 1 + 1, 1, none⟩ (.string x.Name)).setCell ⟨B + 1 + 1, 2, none⟩ (.string x.Mod)).setCell ⟨B + 1 + 1, 3, none⟩ (.int .i64 x.No)).setCell ⟨B + 1 + 1, 4, none⟩ (.int .i64 x.State.K)).setCell ⟨B + 1 + 1, 5, none⟩ (.int .i64 x.State.N)).setCell ⟨B + 1 + 1, 6, none⟩ (.string x.State.S)).heap[B + 1 + 1]? = some (.cells #[.int .i64 x.Pid, .string x.Name, .string x.Mod, .int .i64 x.No, .int .i64 x.State.K, .int .i64 x.State.N, .string x.State.S, .slice none 0 0, .slice none 0 0] 33 (0, 0)) := heap_setCell_same _ (B + 1 + 1) 6 _ _ (.string x.State.S) zr5
            have zr7 : ((((((((w8.setCell ⟨B + 1 + 1, 0, none⟩ (.int .i64 x.Pid)).setCell ⟨B + 1 + 1, 1, none⟩ (.string x.Name)).setCell ⟨B + 1 + 1, 2, none⟩ (.string x.Mod)).setCell ⟨B + 1 + 1, 3, none⟩ (.int .i64 x.No)).setCell ⟨B + 1 + 1, 4, none⟩ (.int .i64 x.State.K)).setCell ⟨B + 1 + 1, 5, none⟩ (.int .i64 x.State.N)).setCell ⟨B + 1 + 1, 6, none⟩ (.string x.State.S)).setCell ⟨B + 1 + 1, 7, none⟩ (.slice b7 m7 k7)).heap[B + 1 + 1]? = some (.cells #[.int .i64 x.Pid, .string x.Name, .string x.Mod, .int .i64 x.No, .int .i64 x.State.K, .int .i64 x.State.N, .string x.State.S, .slice b7 m7 k7, .slice none 0 0] 33 (0, 0)) := heap_setCell_same _ (B + 1 + 1) 7 _ _ (.slice b7 m7 k7) zr6
            have zr8 : (((((((((w8.setCell ⟨B + 1 + 1, 0, none⟩ (.int .i64 x.Pid)).setCell ⟨B + 1 + 1, 1, none⟩ (.string x.Name)).setCell ⟨B + 1 + 1, 2, none⟩ (.string x.Mod)).setCell ⟨B + 1 + 1, 3, none⟩ (.int .i64 x.No)).setCell ⟨B + 1 + 1, 4, none⟩ (.int .i64 x.State.K)).setCell ⟨B + 1 + 1, 5, none⟩ (.int .i64 x.State.N)).setCell ⟨B + 1 + 1, 6, none⟩ (.string x.State.S)).setCell ⟨B + 1 + 1, 7, none⟩ (.slice b7 m7 k7)).setCell ⟨B + 1 + 1, 8, none⟩ (.slice av2 lv2 cv2)).heap[B + 1 + 1]? = some (.cells #[.int .i64 x.Pid, .string x.Name, .string x.Mod, .int .i64 x.No, .int .i64 x.State.K, .int .i64 x.State.N, .string x.State.S, .slice b7 m7 k7, .slice av2 lv2 cv2] 33 (0, 0)) := heap_setCell_same _ (B + 1 + 1) 8 _ _ (.slice av2 lv2 cv2) zr7
            exact zr8
          have hKz : Kept (B + 1 + 1) (B + 1 + 1 + 1) w8 wz := by
            rw [hwz]
            repeat (first | with_reducible exact Kept.refl _ _ _ | with_reducible refine Kept.drew ?_ | (with_reducible refine Kept.set ?_ ?_; omega))
          have HE : Hid (MwRes x t w (.returned (.tuple #[(.agg #[.int .i64 x.Pid, .string x.Name, .string x.Mod, .int .i64 x.No, .int .i64 x.State.K, .int .i64 x.State.N, .string x.State.S, .slice b7 m7 k7, .slice av2 lv2 cv2]), .bool true])) wz ∧ wz.heap[B + 1 + 1]? = some (.cells #[.int .i64 x.Pid, .string x.Name, .string x.Mod, .int .i64 x.No, .int .i64 x.State.K, .int .i64 x.State.N, .string x.State.S, .slice b7 m7 k7, .slice av2 lv2 cv2] 33 (0, 0))) := by
            refine ⟨⟨(putW x t), true, _, _, _, _, _, _, _, _, _, rfl, ⟨.inl ⟨rfl, HYES.out, rfl⟩, fun Z hZ => ⟨_, _, _, _, _, rfl, ⟨_, rfl, HRD_8.out.1 Z fun g h1 h2 => (hZ g (by have := HB.out.1; omega) (by have := hKz.size; omega)).trans (hKz.block g h2 (.inr h1))⟩, HRD_8.out.2 Z fun g h1 h2 => (hZ g (by have := HB.out.1; omega) (by have := hKz.size; omega)).trans (hKz.block g h2 (.inr h1))⟩⟩, ?_⟩, nz⟩
            exact HBL_8.out.trans (hKz.below (by have := HB.out.1; omega) HBL_8.out.size)
          have HWZ : Hid (wz = _) := hwz
          clear hwz nz hKz
          go_wp2_with fail
          rw [← HWZ.out]
          refine bodyPost_ret (res_two Try.f12 _ 4 5 (B + 1 + 1) true wz _ _ _ _ _ _ _ _ _ rfl rfl rfl HE.out.2) rfl HE.out.1

end Go.Proofs.Ytfachfimdenapaa
