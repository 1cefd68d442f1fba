/- A worker copied: the program's ownWorker. -/
import Derived.Test.YtfachfimdenapaaPw1M
import Derived.Test.YtfachfimdenapaaRs9M
import Derived.Test.YtfachfimdenapaaRLawM
import Derived.Deep.RegionHeld3
import Derived.Deep.DeepCutAuto
namespace Go.Proofs.Ytfachfimdenapaa
open Go.RowKit
set_option linter.unusedVariables false

theorem far_drew {V : World} {g : Nat} {r : Option (Obj)} (h : V.heap[g]? = r) : V.drew.heap[g]? = r := h
theorem far_set {V : World} {g p i : Nat} {u : Value} {r : Option (Obj)} (hg : g ≠ p) (h : V.heap[g]? = r) : (V.setCell ⟨p, i, none⟩ u).heap[g]? = r := (heap_setCell_other V ⟨p, i, none⟩ g u hg).trans h

/-- What comes back. -/
def WkRes {d : Nat} (x : DWorker d) (w : World) (e : Ending) (w' : World) : Prop := ∃ (K N : Int) (S : ByteArray) (a7 a8 : Option Addr) (l7 c7 l8 c8 : Nat) (fp : List Nat), e = .returned (.agg #[.int .i64 x.Pid, .string x.Name, .string x.Mod, .int .i64 x.No, .int .i64 K, .int .i64 N, .string S, .slice a7 l7 c7, .slice a8 l8 c8]) ∧ Hid (WorkerO (d + 1) w' [.int .i64 x.Pid, .string x.Name, .string x.Mod, .int .i64 x.No, .int .i64 K, .int .i64 N, .string S, .slice a7 l7 c7, .slice a8 l8 c8] (upW x) fp ∧ Fresh w.heap.size w' fp) ∧ Below w.heap.size w w'

set_option maxRecDepth 100000 in
set_option maxHeartbeats 4000000 in
theorem ownWorker_any (d : Nat) (x : DWorker d) (a7 a8 : Option Addr) (l7 c7 l8 c8 : Nat) (w : World) (h7 : RdQ d w (.slice a7 l7 c7) x.State.L) (h8 : RdQ (d + 1) w (.slice a8 l8 c8) x.Box) (hc : cntL d x.State.L ≤ 2097152 ∧ cntL (d + 1) x.Box ≤ 4194304) :
    Calls Try.prog 35 #[.agg #[.int .i64 x.Pid, .string x.Name, .string x.Mod, .int .i64 x.No, .int .i64 x.State.K, .int .i64 x.State.N, .string x.State.S, .slice a7 l7 c7, .slice a8 l8 c8]] w fun e w' => WkRes x w e w' := by
  obtain ⟨B, hB⟩ : ∃ B, w.heap.size = B := ⟨_, rfl⟩
  obtain ⟨W1, hW1⟩ : ∃ W, W = w.alloc (.cells #[.int .i64 x.Pid, .string x.Name, .string x.Mod, .int .i64 x.No, .int .i64 x.State.K, .int .i64 x.State.N, .string x.State.S, .slice a7 l7 c7, .slice a8 l8 c8] 33) := ⟨_, rfl⟩
  obtain ⟨W2, hW2⟩ : ∃ W, W = W1.alloc (.cells #[.int .i64 0, .string ⟨#[]⟩, .string ⟨#[]⟩, .int .i64 0, .int .i64 0, .int .i64 0, .string ⟨#[]⟩, .slice none 0 0, .slice none 0 0] 33) := ⟨_, rfl⟩
  obtain ⟨W3, hW3⟩ : ∃ W, W = W2.alloc (.cells #[.int .i64 0, .int .i64 0, .string x.Name, .slice none 0 0, .int .i64 0, .int .i64 0, .string x.Mod, .slice none 0 0, .int .i64 x.State.K, .int .i64 x.State.N, .string x.State.S, .slice a7 l7 c7, .int .i64 0, .int .i64 0, .string ⟨#[]⟩, .slice a8 l8 c8] 31) := ⟨_, rfl⟩
  have s1 : W1.heap.size = B + 1 := by rw [hW1, ← hB]; simp
  have s2 : W2.heap.size = B + 1 + 1 := by rw [hW2]; simp [s1]
  have s3 : W3.heap.size = B + 1 + 1 + 1 := by rw [hW3]; simp [s2]
  have b1 : Below w.heap.size w W1 := by rw [hW1]; exact (Below.refl _ _).alloc (Nat.le_refl _) _
  have b2 : Below W1.heap.size W1 W2 := by rw [hW2]; exact (Below.refl _ _).alloc (Nat.le_refl _) _
  have b3 : Below W2.heap.size W2 W3 := by rw [hW3]; exact (Below.refl _ _).alloc (Nat.le_refl _) _
  have bw : Below w.heap.size w W3 := b1.trans ((b2.trans (b3.mono b2.size)).mono b1.size)
  have nP : W3.heap[B]? = some (.cells #[.int .i64 x.Pid, .string x.Name, .string x.Mod, .int .i64 x.No, .int .i64 x.State.K, .int .i64 x.State.N, .string x.State.S, .slice a7 l7 c7, .slice a8 l8 c8] 33 (0, 0)) := by
    refine (b3.block B (by omega)).trans ((b2.block B (by omega)).trans ?_)
    rw [hW1, ← hB]; exact heap_alloc_new w _
  have nZ : W3.heap[B + 1]? = some (.cells #[.int .i64 0, .string ⟨#[]⟩, .string ⟨#[]⟩, .int .i64 0, .int .i64 0, .int .i64 0, .string ⟨#[]⟩, .slice none 0 0, .slice none 0 0] 33 (0, 0)) := by
    refine (b3.block (B + 1) (by omega)).trans ?_
    rw [hW2, ← s1]; exact heap_alloc_new W1 _
  have nR : W3.heap[B + 1 + 1]? = some (.cells #[.int .i64 0, .int .i64 0, .string x.Name, .slice none 0 0, .int .i64 0, .int .i64 0, .string x.Mod, .slice none 0 0, .int .i64 x.State.K, .int .i64 x.State.N, .string x.State.S, .slice a7 l7 c7, .int .i64 0, .int .i64 0, .string ⟨#[]⟩, .slice a8 l8 c8] 31 (0, 0)) := by rw [hW3, ← s2]; exact heap_alloc_new W2 _
  have hC := ownTerms_some (d + 1) (.slice (some ⟨B + 1 + 1, 0, none⟩) 4 4) (lsW x) W3 (lsW_rdq nR (h7.later bw) (h8.later bw)) (by simp [lsW]) (by rw [lsW_cnt]; omega)
  have hl4 : (lsW x).length = 4 := rfl
  rw [hl4] at hC
  have HW3 : Hid (W3 = _) := hW3
  have HN : Hid (W3.heap[B]? = some (.cells #[.int .i64 x.Pid, .string x.Name, .string x.Mod, .int .i64 x.No, .int .i64 x.State.K, .int .i64 x.State.N, .string x.State.S, .slice a7 l7 c7, .slice a8 l8 c8] 33 (0, 0)) ∧ W3.heap[B + 1]? = some (.cells #[.int .i64 0, .string ⟨#[]⟩, .string ⟨#[]⟩, .int .i64 0, .int .i64 0, .int .i64 0, .string ⟨#[]⟩, .slice none 0 0, .slice none 0 0] 33 (0, 0)) ∧ Below w.heap.size w W3 ∧ W3.heap.size = B + 1 + 1 + 1 ∧ w.heap.size = B) := ⟨nP, nZ, bw, s3, hB⟩
  rw [hW3, hW2, hW1] at hC
  rw [hW2, hW1] at HW3
  clear hW1 hW2 hW3 s1 s2 s3 b1 b2 b3 bw nP nZ nR h7 h8 hl4
  go_enter Try.func35, Try.ntmps35
  go_wp2_with fail
  refine hC.mono ?_
  clear hC
  rw [← HW3.out]
  rintro e w4 ⟨g, c, fp, rfl, hown, hfr, hb⟩
  obtain ⟨cur, y7, m7, k7, y8, m8, k8, f7, f8, fa, fb, q1, q2, q3, q4, q5, q6, q7, q8, q9, q10, q11⟩ := lsW_open hown
  have n4 := (hb.block B (by have := HN.out.2.2.2.1; omega)).trans HN.out.1
  have z4 := (hb.block (B + 1) (by have := HN.out.2.2.2.1; omega)).trans HN.out.2.1
  have hgB : B + 1 + 1 + 1 ≤ g := by have := (hfr.2 g (by rw [q2]; exact List.mem_cons_self ..)).1; have := HN.out.2.2.2.1; omega
  have HSK : Hid (∀ V : World, V.heap[g]? = some (.cells cur 31 (0, 0)) → V.cell? ⟨g, 2, none⟩ = some (.string x.Name) ∧ V.cell? ⟨g, 6, none⟩ = some (.string x.Mod) ∧ V.cell? ⟨g, 8, none⟩ = some (.int .i64 x.State.K) ∧ V.cell? ⟨g, 9, none⟩ = some (.int .i64 x.State.N) ∧ V.cell? ⟨g, 10, none⟩ = some (.string x.State.S) ∧ V.cell? ⟨g, 11, none⟩ = some (.slice y7 m7 k7) ∧ V.cell? ⟨g, 15, none⟩ = some (.slice y8 m8 k8)) := fun V hV => by
    have hc := fun k => cell_of_row V g k _ _ _ hV
    exact ⟨by rw [hc]; exact q3, by rw [hc]; exact q4, by rw [hc]; exact q5, by rw [hc]; exact q6, by rw [hc]; exact q7, by rw [hc]; exact q8, by rw [hc]; exact q9⟩
  have HG4 : Hid (w4.heap[g]? = some (.cells cur 31 (0, 0))) := q1
  have hgne : g ≠ B := by omega
  have p0 : w4.cell? ⟨B, 0, none⟩ = some (.int .i64 x.Pid) := by rw [cell_of_row w4 _ 0 _ _ _ n4]; rfl
  have yp0 : w4.frozen? ⟨B, 0, none⟩ = false := frozen_of_row w4 _ 0 _ _ n4
  have p1 : w4.cell? ⟨B, 1, none⟩ = some (.string x.Name) := by rw [cell_of_row w4 _ 1 _ _ _ n4]; rfl
  have yp1 : w4.frozen? ⟨B, 1, none⟩ = false := frozen_of_row w4 _ 1 _ _ n4
  have p2 : w4.cell? ⟨B, 2, none⟩ = some (.string x.Mod) := by rw [cell_of_row w4 _ 2 _ _ _ n4]; rfl
  have yp2 : w4.frozen? ⟨B, 2, none⟩ = false := frozen_of_row w4 _ 2 _ _ n4
  have p3 : w4.cell? ⟨B, 3, none⟩ = some (.int .i64 x.No) := by rw [cell_of_row w4 _ 3 _ _ _ n4]; rfl
  have yp3 : w4.frozen? ⟨B, 3, none⟩ = false := frozen_of_row w4 _ 3 _ _ n4
  have p4 : w4.cell? ⟨B, 4, none⟩ = some (.int .i64 x.State.K) := by rw [cell_of_row w4 _ 4 _ _ _ n4]; rfl
  have yp4 : w4.frozen? ⟨B, 4, none⟩ = false := frozen_of_row w4 _ 4 _ _ n4
  have p5 : w4.cell? ⟨B, 5, none⟩ = some (.int .i64 x.State.N) := by rw [cell_of_row w4 _ 5 _ _ _ n4]; rfl
  have yp5 : w4.frozen? ⟨B, 5, none⟩ = false := frozen_of_row w4 _ 5 _ _ n4
  have p6 : w4.cell? ⟨B, 6, none⟩ = some (.string x.State.S) := by rw [cell_of_row w4 _ 6 _ _ _ n4]; rfl
  have yp6 : w4.frozen? ⟨B, 6, none⟩ = false := frozen_of_row w4 _ 6 _ _ n4
  have p7 : w4.cell? ⟨B, 7, none⟩ = some (.slice a7 l7 c7) := by rw [cell_of_row w4 _ 7 _ _ _ n4]; rfl
  have yp7 : w4.frozen? ⟨B, 7, none⟩ = false := frozen_of_row w4 _ 7 _ _ n4
  have p8 : w4.cell? ⟨B, 8, none⟩ = some (.slice a8 l8 c8) := by rw [cell_of_row w4 _ 8 _ _ _ n4]; rfl
  have yp8 : w4.frozen? ⟨B, 8, none⟩ = false := frozen_of_row w4 _ 8 _ _ n4
  clear HW3 hown q1 q3 q4 q5 q6 q7 q8 q9
  go_wp2_with fail
  go_region_held3 (fun V => V.cell? ⟨g, 2, none⟩ = some (.string x.Name) ∧ V.cell? ⟨g, 6, none⟩ = some (.string x.Mod) ∧ V.cell? ⟨g, 8, none⟩ = some (.int .i64 x.State.K) ∧ V.cell? ⟨g, 9, none⟩ = some (.int .i64 x.State.N) ∧ V.cell? ⟨g, 10, none⟩ = some (.string x.State.S) ∧ V.cell? ⟨g, 11, none⟩ = some (.slice y7 m7 k7) ∧ V.cell? ⟨g, 15, none⟩ = some (.slice y8 m8 k8)) ((refine HSK.out _ ?_; repeat (first | (with_reducible exact HG4.out) | (with_reducible refine far_drew ?_) | (with_reducible refine far_set hgne ?_)))) (fail)
  obtain ⟨w5, hw5⟩ : ∃ W, W = (((((((w4.setCell ⟨B, 1, none⟩ (.string x.Name)).setCell ⟨B, 2, none⟩ (.string x.Mod)).setCell ⟨B, 4, none⟩ (.int .i64 x.State.K)).setCell ⟨B, 5, none⟩ (.int .i64 x.State.N)).setCell ⟨B, 6, none⟩ (.string x.State.S)).setCell ⟨B, 7, none⟩ (.slice y7 m7 k7)).setCell ⟨B, 8, none⟩ (.slice y8 m8 k8)).drew := ⟨_, rfl⟩
  have n5 : w5.heap[B]? = some (.cells #[.int .i64 x.Pid, .string x.Name, .string x.Mod, .int .i64 x.No, .int .i64 x.State.K, .int .i64 x.State.N, .string x.State.S, .slice y7 m7 k7, .slice y8 m8 k8] 33 (0, 0)) := by
    rw [hw5]
    have zm1 : (w4.setCell ⟨B, 1, none⟩ (.string x.Name)).heap[B]? = some (.cells #[.int .i64 x.Pid, .string x.Name, .string x.Mod, .int .i64 x.No, .int .i64 x.State.K, .int .i64 x.State.N, .string x.State.S, .slice a7 l7 c7, .slice a8 l8 c8] 33 (0, 0)) := heap_setCell_same _ (B) 1 _ _ (.string x.Name) n4
    have zm2 : ((w4.setCell ⟨B, 1, none⟩ (.string x.Name)).setCell ⟨B, 2, none⟩ (.string x.Mod)).heap[B]? = some (.cells #[.int .i64 x.Pid, .string x.Name, .string x.Mod, .int .i64 x.No, .int .i64 x.State.K, .int .i64 x.State.N, .string x.State.S, .slice a7 l7 c7, .slice a8 l8 c8] 33 (0, 0)) := heap_setCell_same _ (B) 2 _ _ (.string x.Mod) zm1
    have zm4 : (((w4.setCell ⟨B, 1, none⟩ (.string x.Name)).setCell ⟨B, 2, none⟩ (.string x.Mod)).setCell ⟨B, 4, none⟩ (.int .i64 x.State.K)).heap[B]? = some (.cells #[.int .i64 x.Pid, .string x.Name, .string x.Mod, .int .i64 x.No, .int .i64 x.State.K, .int .i64 x.State.N, .string x.State.S, .slice a7 l7 c7, .slice a8 l8 c8] 33 (0, 0)) := heap_setCell_same _ (B) 4 _ _ (.int .i64 x.State.K) zm2
    have zm5 : ((((w4.setCell ⟨B, 1, none⟩ (.string x.Name)).setCell ⟨B, 2, none⟩ (.string x.Mod)).setCell ⟨B, 4, none⟩ (.int .i64 x.State.K)).setCell ⟨B, 5, none⟩ (.int .i64 x.State.N)).heap[B]? = some (.cells #[.int .i64 x.Pid, .string x.Name, .string x.Mod, .int .i64 x.No, .int .i64 x.State.K, .int .i64 x.State.N, .string x.State.S, .slice a7 l7 c7, .slice a8 l8 c8] 33 (0, 0)) := heap_setCell_same _ (B) 5 _ _ (.int .i64 x.State.N) zm4
    have zm6 : (((((w4.setCell ⟨B, 1, none⟩ (.string x.Name)).setCell ⟨B, 2, none⟩ (.string x.Mod)).setCell ⟨B, 4, none⟩ (.int .i64 x.State.K)).setCell ⟨B, 5, none⟩ (.int .i64 x.State.N)).setCell ⟨B, 6, none⟩ (.string x.State.S)).heap[B]? = some (.cells #[.int .i64 x.Pid, .string x.Name, .string x.Mod, .int .i64 x.No, .int .i64 x.State.K, .int .i64 x.State.N, .string x.State.S, .slice a7 l7 c7, .slice a8 l8 c8] 33 (0, 0)) := heap_setCell_same _ (B) 6 _ _ (.string x.State.S) zm5
    have zm7 : ((((((w4.setCell ⟨B, 1, none⟩ (.string x.Name)).setCell ⟨B, 2, none⟩ (.string x.Mod)).setCell ⟨B, 4, none⟩ (.int .i64 x.State.K)).setCell ⟨B, 5, none⟩ (.int .i64 x.State.N)).setCell ⟨B, 6, none⟩ (.string x.State.S)).setCell ⟨B, 7, none⟩ (.slice y7 m7 k7)).heap[B]? = some (.cells #[.int .i64 x.Pid, .string x.Name, .string x.Mod, .int .i64 x.No, .int .i64 x.State.K, .int .i64 x.State.N, .string x.State.S, .slice y7 m7 k7, .slice a8 l8 c8] 33 (0, 0)) := heap_setCell_same _ (B) 7 _ _ (.slice y7 m7 k7) zm6
    have zm8 : (((((((w4.setCell ⟨B, 1, none⟩ (.string x.Name)).setCell ⟨B, 2, none⟩ (.string x.Mod)).setCell ⟨B, 4, none⟩ (.int .i64 x.State.K)).setCell ⟨B, 5, none⟩ (.int .i64 x.State.N)).setCell ⟨B, 6, none⟩ (.string x.State.S)).setCell ⟨B, 7, none⟩ (.slice y7 m7 k7)).setCell ⟨B, 8, none⟩ (.slice y8 m8 k8)).heap[B]? = some (.cells #[.int .i64 x.Pid, .string x.Name, .string x.Mod, .int .i64 x.No, .int .i64 x.State.K, .int .i64 x.State.N, .string x.State.S, .slice y7 m7 k7, .slice y8 m8 k8] 33 (0, 0)) := heap_setCell_same _ (B) 8 _ _ (.slice y8 m8 k8) zm7
    exact far_drew zm8
  have hK5 : Kept B (B + 1) w4 w5 := by
    rw [hw5]
    repeat (first | with_reducible exact Kept.refl _ _ _ | with_reducible refine Kept.drew ?_ | (with_reducible refine Kept.set ?_ ?_; omega))
  have z5 := (hK5.block (B + 1) (lt_row z4) (.inr (by omega))).trans z4
  have HFIN : Hid (∀ Z, Kept (B + 1) (B + 1 + 1) w5 Z → WkRes x w (.returned (.agg #[.int .i64 x.Pid, .string x.Name, .string x.Mod, .int .i64 x.No, .int .i64 x.State.K, .int .i64 x.State.N, .string x.State.S, .slice y7 m7 k7, .slice y8 m8 k8])) Z) := fun Z hZ => by
    have hBw := HN.out.2.2.2.2
    have hz3 := HN.out.2.2.2.1
    have hbw := HN.out.2.2.1
    have kept : ∀ j, j ∈ fp → Z.heap[j]? = w4.heap[j]? := fun j hj => by
      have h1 := hfr.2 j hj
      have h2 := hK5.size
      exact (hZ.block j (by omega) (.inr (by omega))).trans (hK5.block j h1.2 (.inr (by omega)))
    have hnd : (f7 ++ f8).Nodup := by
      have := hfr.1
      rw [q2, List.nodup_cons, List.nodup_append, List.nodup_append] at this
      exact this.2.2.1.2.1
    have hsub : ∀ j ∈ f7 ++ f8, j ∈ fp := fun j hj => by
      rw [q2]
      exact List.mem_cons_of_mem _ (List.mem_append_right _ (List.mem_append_right _ hj))
    refine ⟨_, _, _, _, _, _, _, _, _, f7 ++ f8, rfl, ⟨⟨_, _, _, _, _, f7, f8, rfl, rfl, ⟨_, rfl, q10.frame fun j hj => kept j (hsub j (List.mem_append_left _ hj))⟩, q11.frame fun j hj => kept j (hsub j (List.mem_append_right _ hj))⟩, hnd, fun j hj => ?_⟩, ?_⟩
    · have h1 := hfr.2 j (hsub j hj)
      have h2 := hK5.size
      have h3 := hZ.size
      omega
    · have h4 : Below w.heap.size w w4 := hbw.trans (hb.mono hbw.size)
      have h5 : Below w.heap.size w w5 := h4.trans (hK5.below (by omega) h4.size)
      exact h5.trans (hZ.below (by omega) h5.size)
  have HW5 : Hid (w5 = _) := hw5
  rw [← hw5]
  clear p0 yp0 p1 yp1 p2 yp2 p3 yp3 p4 yp4 p5 yp5 p6 yp6 p7 yp7 p8 yp8 hw5 hK5 n4 z4
  have p0 : w5.cell? ⟨B, 0, none⟩ = some (.int .i64 x.Pid) := by rw [cell_of_row w5 _ 0 _ _ _ n5]; rfl
  have p1 : w5.cell? ⟨B, 1, none⟩ = some (.string x.Name) := by rw [cell_of_row w5 _ 1 _ _ _ n5]; rfl
  have p2 : w5.cell? ⟨B, 2, none⟩ = some (.string x.Mod) := by rw [cell_of_row w5 _ 2 _ _ _ n5]; rfl
  have p3 : w5.cell? ⟨B, 3, none⟩ = some (.int .i64 x.No) := by rw [cell_of_row w5 _ 3 _ _ _ n5]; rfl
  have p4 : w5.cell? ⟨B, 4, none⟩ = some (.int .i64 x.State.K) := by rw [cell_of_row w5 _ 4 _ _ _ n5]; rfl
  have p5 : w5.cell? ⟨B, 5, none⟩ = some (.int .i64 x.State.N) := by rw [cell_of_row w5 _ 5 _ _ _ n5]; rfl
  have p6 : w5.cell? ⟨B, 6, none⟩ = some (.string x.State.S) := by rw [cell_of_row w5 _ 6 _ _ _ n5]; rfl
  have p7 : w5.cell? ⟨B, 7, none⟩ = some (.slice y7 m7 k7) := by rw [cell_of_row w5 _ 7 _ _ _ n5]; rfl
  have p8 : w5.cell? ⟨B, 8, none⟩ = some (.slice y8 m8 k8) := by rw [cell_of_row w5 _ 8 _ _ _ n5]; rfl
  have e0 : w5.cell? ⟨B + 1, 0, none⟩ = some (.int .i64 0) := by rw [cell_of_row w5 _ 0 _ _ _ z5]; rfl
  have ye0 : w5.frozen? ⟨B + 1, 0, none⟩ = false := frozen_of_row w5 _ 0 _ _ z5
  have e1 : w5.cell? ⟨B + 1, 1, none⟩ = some (.string ⟨#[]⟩) := by rw [cell_of_row w5 _ 1 _ _ _ z5]; rfl
  have ye1 : w5.frozen? ⟨B + 1, 1, none⟩ = false := frozen_of_row w5 _ 1 _ _ z5
  have e2 : w5.cell? ⟨B + 1, 2, none⟩ = some (.string ⟨#[]⟩) := by rw [cell_of_row w5 _ 2 _ _ _ z5]; rfl
  have ye2 : w5.frozen? ⟨B + 1, 2, none⟩ = false := frozen_of_row w5 _ 2 _ _ z5
  have e3 : w5.cell? ⟨B + 1, 3, none⟩ = some (.int .i64 0) := by rw [cell_of_row w5 _ 3 _ _ _ z5]; rfl
  have ye3 : w5.frozen? ⟨B + 1, 3, none⟩ = false := frozen_of_row w5 _ 3 _ _ z5
  have e4 : w5.cell? ⟨B + 1, 4, none⟩ = some (.int .i64 0) := by rw [cell_of_row w5 _ 4 _ _ _ z5]; rfl
  have ye4 : w5.frozen? ⟨B + 1, 4, none⟩ = false := frozen_of_row w5 _ 4 _ _ z5
  have e5 : w5.cell? ⟨B + 1, 5, none⟩ = some (.int .i64 0) := by rw [cell_of_row w5 _ 5 _ _ _ z5]; rfl
  have ye5 : w5.frozen? ⟨B + 1, 5, none⟩ = false := frozen_of_row w5 _ 5 _ _ z5
  have e6 : w5.cell? ⟨B + 1, 6, none⟩ = some (.string ⟨#[]⟩) := by rw [cell_of_row w5 _ 6 _ _ _ z5]; rfl
  have ye6 : w5.frozen? ⟨B + 1, 6, none⟩ = false := frozen_of_row w5 _ 6 _ _ z5
  have e7 : w5.cell? ⟨B + 1, 7, none⟩ = some (.slice none 0 0) := by rw [cell_of_row w5 _ 7 _ _ _ z5]; rfl
  have ye7 : w5.frozen? ⟨B + 1, 7, none⟩ = false := frozen_of_row w5 _ 7 _ _ z5
  have e8 : w5.cell? ⟨B + 1, 8, none⟩ = some (.slice none 0 0) := by rw [cell_of_row w5 _ 8 _ _ _ z5]; rfl
  have ye8 : w5.frozen? ⟨B + 1, 8, none⟩ = false := frozen_of_row w5 _ 8 _ _ z5
  obtain ⟨w6, hw6⟩ : ∃ W, W = (((((((((w5.setCell ⟨B + 1, 0, none⟩ (.int .i64 x.Pid)).setCell ⟨B + 1, 1, none⟩ (.string x.Name)).setCell ⟨B + 1, 2, none⟩ (.string x.Mod)).setCell ⟨B + 1, 3, none⟩ (.int .i64 x.No)).setCell ⟨B + 1, 4, none⟩ (.int .i64 x.State.K)).setCell ⟨B + 1, 5, none⟩ (.int .i64 x.State.N)).setCell ⟨B + 1, 6, none⟩ (.string x.State.S)).setCell ⟨B + 1, 7, none⟩ (.slice y7 m7 k7)).setCell ⟨B + 1, 8, none⟩ (.slice y8 m8 k8)) := ⟨_, rfl⟩
  have n6 : w6.heap[B + 1]? = some (.cells #[.int .i64 x.Pid, .string x.Name, .string x.Mod, .int .i64 x.No, .int .i64 x.State.K, .int .i64 x.State.N, .string x.State.S, .slice y7 m7 k7, .slice y8 m8 k8] 33 (0, 0)) := by
    rw [hw6]
    have r0 : (w5.setCell ⟨B + 1, 0, none⟩ (.int .i64 x.Pid)).heap[B + 1]? = some (.cells #[.int .i64 x.Pid, .string ⟨#[]⟩, .string ⟨#[]⟩, .int .i64 0, .int .i64 0, .int .i64 0, .string ⟨#[]⟩, .slice none 0 0, .slice none 0 0] 33 (0, 0)) := heap_setCell_same _ (B + 1) 0 _ _ (.int .i64 x.Pid) z5
    have r1 : ((w5.setCell ⟨B + 1, 0, none⟩ (.int .i64 x.Pid)).setCell ⟨B + 1, 1, none⟩ (.string x.Name)).heap[B + 1]? = some (.cells #[.int .i64 x.Pid, .string x.Name, .string ⟨#[]⟩, .int .i64 0, .int .i64 0, .int .i64 0, .string ⟨#[]⟩, .slice none 0 0, .slice none 0 0] 33 (0, 0)) := heap_setCell_same _ (B + 1) 1 _ _ (.string x.Name) r0
    have r2 : (((w5.setCell ⟨B + 1, 0, none⟩ (.int .i64 x.Pid)).setCell ⟨B + 1, 1, none⟩ (.string x.Name)).setCell ⟨B + 1, 2, none⟩ (.string x.Mod)).heap[B + 1]? = some (.cells #[.int .i64 x.Pid, .string x.Name, .string x.Mod, .int .i64 0, .int .i64 0, .int .i64 0, .string ⟨#[]⟩, .slice none 0 0, .slice none 0 0] 33 (0, 0)) := heap_setCell_same _ (B + 1) 2 _ _ (.string x.Mod) r1
    have r3 : ((((w5.setCell ⟨B + 1, 0, none⟩ (.int .i64 x.Pid)).setCell ⟨B + 1, 1, none⟩ (.string x.Name)).setCell ⟨B + 1, 2, none⟩ (.string x.Mod)).setCell ⟨B + 1, 3, none⟩ (.int .i64 x.No)).heap[B + 1]? = some (.cells #[.int .i64 x.Pid, .string x.Name, .string x.Mod, .int .i64 x.No, .int .i64 0, .int .i64 0, .string ⟨#[]⟩, .slice none 0 0, .slice none 0 0] 33 (0, 0)) := heap_setCell_same _ (B + 1) 3 _ _ (.int .i64 x.No) r2
    have r4 : (((((w5.setCell ⟨B + 1, 0, none⟩ (.int .i64 x.Pid)).setCell ⟨B + 1, 1, none⟩ (.string x.Name)).setCell ⟨B + 1, 2, none⟩ (.string x.Mod)).setCell ⟨B + 1, 3, none⟩ (.int .i64 x.No)).setCell ⟨B + 1, 4, none⟩ (.int .i64 x.State.K)).heap[B + 1]? = some (.cells #[.int .i64 x.Pid, .string x.Name, .string x.Mod, .int .i64 x.No, .int .i64 x.State.K, .int .i64 0, .string ⟨#[]⟩, .slice none 0 0, .slice none 0 0] 33 (0, 0)) := heap_setCell_same _ (B + 1) 4 _ _ (.int .i64 x.State.K) r3
    have r5 : ((((((w5.setCell ⟨B + 1, 0, none⟩ (.int .i64 x.Pid)).setCell ⟨B + 1, 1, none⟩ (.string x.Name)).setCell ⟨B + 1, 2, none⟩ (.string x.Mod)).setCell ⟨B + 1, 3, none⟩ (.int .i64 x.No)).setCell ⟨B + 1, 4, none⟩ (.int .i64 x.State.K)).setCell ⟨B + 1, 5, none⟩ (.int .i64 x.State.N)).heap[B + 1]? = some (.cells #[.int .i64 x.Pid, .string x.Name, .string x.Mod, .int .i64 x.No, .int .i64 x.State.K, .int .i64 x.State.N, .string ⟨#[]⟩, .slice none 0 0, .slice none 0 0] 33 (0, 0)) := heap_setCell_same _ (B + 1) 5 _ _ (.int .i64 x.State.N) r4
    have r6 : (((((((w5.setCell ⟨B + 1, 0, none⟩ (.int .i64 x.Pid)).setCell ⟨B + 1, 1, none⟩ (.string x.Name)).setCell ⟨B + 1, 2, none⟩ (.string x.Mod)).setCell ⟨B + 1, 3, none⟩ (.int .i64 x.No)).setCell ⟨B + 1, 4, none⟩ (.int .i64 x.State.K)).setCell ⟨B + 1, 5, none⟩ (.int .i64 x.State.N)).setCell ⟨B + 1, 6, none⟩ (.string x.State.S)).heap[B + 1]? = some (.cells #[.int .i64 x.Pid, .string x.Name, .string x.Mod, .int .i64 x.No, .int .i64 x.State.K, .int .i64 x.State.N, .string x.State.S, .slice none 0 0, .slice none 0 0] 33 (0, 0)) := heap_setCell_same _ (B + 1) 6 _ _ (.string x.State.S) r5
    have r7 : ((((((((w5.setCell ⟨B + 1, 0, none⟩ (.int .i64 x.Pid)).setCell ⟨B + 1, 1, none⟩ (.string x.Name)).setCell ⟨B + 1, 2, none⟩ (.string x.Mod)).setCell ⟨B + 1, 3, none⟩ (.int .i64 x.No)).setCell ⟨B + 1, 4, none⟩ (.int .i64 x.State.K)).setCell ⟨B + 1, 5, none⟩ (.int .i64 x.State.N)).setCell ⟨B + 1, 6, none⟩ (.string x.State.S)).setCell ⟨B + 1, 7, none⟩ (.slice y7 m7 k7)).heap[B + 1]? = some (.cells #[.int .i64 x.Pid, .string x.Name, .string x.Mod, .int .i64 x.No, .int .i64 x.State.K, .int .i64 x.State.N, .string x.State.S, .slice y7 m7 k7, .slice none 0 0] 33 (0, 0)) := heap_setCell_same _ (B + 1) 7 _ _ (.slice y7 m7 k7) r6
    have r8 : (((((((((w5.setCell ⟨B + 1, 0, none⟩ (.int .i64 x.Pid)).setCell ⟨B + 1, 1, none⟩ (.string x.Name)).setCell ⟨B + 1, 2, none⟩ (.string x.Mod)).setCell ⟨B + 1, 3, none⟩ (.int .i64 x.No)).setCell ⟨B + 1, 4, none⟩ (.int .i64 x.State.K)).setCell ⟨B + 1, 5, none⟩ (.int .i64 x.State.N)).setCell ⟨B + 1, 6, none⟩ (.string x.State.S)).setCell ⟨B + 1, 7, none⟩ (.slice y7 m7 k7)).setCell ⟨B + 1, 8, none⟩ (.slice y8 m8 k8)).heap[B + 1]? = some (.cells #[.int .i64 x.Pid, .string x.Name, .string x.Mod, .int .i64 x.No, .int .i64 x.State.K, .int .i64 x.State.N, .string x.State.S, .slice y7 m7 k7, .slice y8 m8 k8] 33 (0, 0)) := heap_setCell_same _ (B + 1) 8 _ _ (.slice y8 m8 k8) r7
    exact r8
  have hK6 : Kept (B + 1) (B + 1 + 1) w5 w6 := by
    rw [hw6]
    repeat (first | with_reducible exact Kept.refl _ _ _ | with_reducible refine Kept.drew ?_ | (with_reducible refine Kept.set ?_ ?_; omega))
  have HE : Hid (WkRes x w (.returned (.agg #[.int .i64 x.Pid, .string x.Name, .string x.Mod, .int .i64 x.No, .int .i64 x.State.K, .int .i64 x.State.N, .string x.State.S, .slice y7 m7 k7, .slice y8 m8 k8])) w6) := HFIN.out _ hK6
  have HW6 : Hid (w6 = _) := hw6
  have HN6 : Hid (w6.heap[B + 1]? = _) := n6
  clear n5 z5 HW5 hw6 n6 hK6 HFIN
  go_wp2_with fail
  rw [← HW6.out]
  refine bodyPost_ret (res_one Try.f35 _ 2 (B + 1) w6 _ _ _ _ _ _ _ _ _ rfl rfl HN6.out) rfl HE.out

end Go.Proofs.Ytfachfimdenapaa
