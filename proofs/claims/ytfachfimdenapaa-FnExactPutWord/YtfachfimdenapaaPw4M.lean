/- A word put to a worker: the program's PutWord. -/
import Derived.Test.YtfachfimdenapaaPw3M
import Derived.Test.YtfachfimdenapaaDtWorkerM
import Derived.Test.YtfachfimdenapaaWo1M
import Derived.Test.YtfachfimdenapaaRs9M
namespace Go.Proofs.Ytfachfimdenapaa
open Go.RowKit
set_option linter.unusedVariables false

theorem cntL_append (d : Nat) (ts : List (Tm (d + 1))) (t : Tm (d + 1)) : cntL (d + 1) (ts ++ [t]) = cntL (d + 1) ts + (1 + cntL d t.L) := by
  show (List.map _ _).sum = (List.map _ _).sum + _
  rw [List.map_append, List.sum_append]
  simp

/-- What the program hands on. -/
def PwRes {d : Nat} (x : DWorker d) (t : Tm (d + 1)) (w : World) (e : Ending) (w' : World) : Prop := ∃ (y : DWorker d) (ok : Bool) (K N : Int) (S : ByteArray) (a7 a8 : Option Addr) (l7 c7 l8 c8 : Nat) (fp : List Nat), e = .returned (.tuple #[.agg #[.int .i64 y.Pid, .string y.Name, .string y.Mod, .int .i64 y.No, .int .i64 K, .int .i64 N, .string S, .slice a7 l7 c7, .slice a8 l8 c8], .bool ok]) ∧
  Hid (PwT x t y ok ∧ WorkerO (d + 1) w' [.int .i64 y.Pid, .string y.Name, .string y.Mod, .int .i64 y.No, .int .i64 K, .int .i64 N, .string S, .slice a7 l7 c7, .slice a8 l8 c8] (upW y) fp ∧ Fresh w.heap.size w' fp) ∧ Below w.heap.size w w'

set_option maxRecDepth 100000 in
set_option maxHeartbeats 4000000 in
theorem implPutWord_any (d : Nat) (x : DWorker d) (t : Tm (d + 1)) (a7 a8 al : Option Addr) (l7 c7 l8 c8 ll lc : Nat) (w : World) (hr : WorkerR d w [.int .i64 x.Pid, .string x.Name, .string x.Mod, .int .i64 x.No, .int .i64 x.State.K, .int .i64 x.State.N, .string x.State.S, .slice a7 l7 c7, .slice a8 l8 c8] x)
    (h7 : RdQ d w (.slice a7 l7 c7) x.State.L) (h8 : RdQ (d + 1) w (.slice a8 l8 c8) x.Box) (hl : RdQ d w (.slice al ll lc) t.L) (hlr : RdL d w (.slice al ll lc) t.L) (hw : WfWorker d x) (hz : szWorkerD d x ≤ 1048576) (ht : WfTm d t) (htc : cntL d t.L ≤ 1048576) :
    Calls Try.prog 14 #[.agg #[.int .i64 x.Pid, .string x.Name, .string x.Mod, .int .i64 x.No, .int .i64 x.State.K, .int .i64 x.State.N, .string x.State.S, .slice a7 l7 c7, .slice a8 l8 c8], .agg #[.int .i64 t.K, .int .i64 t.N, .string t.S, .slice al ll lc]] w fun e w' => PwRes x t w e w' := by
  obtain ⟨B, hB⟩ : ∃ B, w.heap.size = B := ⟨_, rfl⟩
  obtain ⟨W1, hW1⟩ : ∃ W, W = w.alloc (.cells #[.int .i64 x.Pid, .string x.Name, .string x.Mod, .int .i64 x.No, .int .i64 x.State.K, .int .i64 x.State.N, .string x.State.S, .slice a7 l7 c7, .slice a8 l8 c8] 33) := ⟨_, rfl⟩
  obtain ⟨W2, hW2⟩ : ∃ W, W = W1.alloc (.cells #[.int .i64 t.K, .int .i64 t.N, .string t.S, .slice al ll lc] 31) := ⟨_, rfl⟩
  obtain ⟨W3, hW3⟩ : ∃ W, W = W2.alloc (.cells #[.int .i64 0, .string ⟨#[]⟩, .string ⟨#[]⟩, .int .i64 0, .int .i64 0, .int .i64 0, .string ⟨#[]⟩, .slice none 0 0, .slice none 0 0] 33) := ⟨_, rfl⟩
  have s1 : W1.heap.size = B + 1 := by rw [hW1, ← hB]; simp
  have s2 : W2.heap.size = B + 1 + 1 := by rw [hW2]; simp [s1]
  have s3 : W3.heap.size = B + 1 + 1 + 1 := by rw [hW3]; simp [s2]
  have b1 : Below w.heap.size w W1 := by rw [hW1]; exact (Below.refl _ _).alloc (Nat.le_refl _) _
  have b2 : Below W1.heap.size W1 W2 := by rw [hW2]; exact (Below.refl _ _).alloc (Nat.le_refl _) _
  have b3 : Below W2.heap.size W2 W3 := by rw [hW3]; exact (Below.refl _ _).alloc (Nat.le_refl _) _
  have bw : Below w.heap.size w W3 := b1.trans ((b2.trans (b3.mono b2.size)).mono b1.size)
  have nP : W3.heap[B]? = some (.cells #[.int .i64 x.Pid, .string x.Name, .string x.Mod, .int .i64 x.No, .int .i64 x.State.K, .int .i64 x.State.N, .string x.State.S, .slice a7 l7 c7, .slice a8 l8 c8] 33 (0, 0)) := by
    refine (b3.block B (by omega)).trans ((b2.block B (by omega)).trans ?_)
    rw [hW1, ← hB]; exact heap_alloc_new w _
  have nT : W3.heap[B + 1]? = some (.cells #[.int .i64 t.K, .int .i64 t.N, .string t.S, .slice al ll lc] 31 (0, 0)) := by
    refine (b3.block (B + 1) (by omega)).trans ?_
    rw [hW2, ← s1]; exact heap_alloc_new W1 _
  have nZ : W3.heap[B + 1 + 1]? = some (.cells #[.int .i64 0, .string ⟨#[]⟩, .string ⟨#[]⟩, .int .i64 0, .int .i64 0, .int .i64 0, .string ⟨#[]⟩, .slice none 0 0, .slice none 0 0] 33 (0, 0)) := by rw [hW3, ← s2]; exact heap_alloc_new W2 _
  have HB : Hid (w.heap.size = B ∧ W3.heap.size = B + 1 + 1 + 1) := ⟨hB, s3⟩
  have HST : Hid (∀ V : World, Below W3.heap.size W3 V → V.heap[B]? = some (.cells #[.int .i64 x.Pid, .string x.Name, .string x.Mod, .int .i64 x.No, .int .i64 x.State.K, .int .i64 x.State.N, .string x.State.S, .slice a7 l7 c7, .slice a8 l8 c8] 33 (0, 0)) ∧ V.heap[B + 1]? = some (.cells #[.int .i64 t.K, .int .i64 t.N, .string t.S, .slice al ll lc] 31 (0, 0)) ∧ V.heap[B + 1 + 1]? = some (.cells #[.int .i64 0, .string ⟨#[]⟩, .string ⟨#[]⟩, .int .i64 0, .int .i64 0, .int .i64 0, .string ⟨#[]⟩, .slice none 0 0, .slice none 0 0] 33 (0, 0)) ∧ Below w.heap.size w V ∧ B + 1 + 1 + 1 ≤ V.heap.size) := fun V hV =>
    ⟨(hV.block _ (lt_row nP)).trans nP, (hV.block _ (lt_row nT)).trans nT, (hV.block _ (lt_row nZ)).trans nZ, bw.trans (hV.mono bw.size), by have := hV.size; omega⟩
  have HR : Hid (∀ V : World, Below w.heap.size w V → WorkerR d V [.int .i64 x.Pid, .string x.Name, .string x.Mod, .int .i64 x.No, .int .i64 x.State.K, .int .i64 x.State.N, .string x.State.S, .slice a7 l7 c7, .slice a8 l8 c8] x ∧ RdQ d V (.slice a7 l7 c7) x.State.L ∧ RdQ (d + 1) V (.slice a8 l8 c8) x.Box ∧ RdQ d V (.slice al ll lc) t.L ∧ RdL d V (.slice al ll lc) t.L) := fun V hV =>
    ⟨WorkerR.lasts d _ _ _ _ hr hV, h7.later hV, h8.later hV, hl.later hV, hlr.later hV⟩
  have hl8 : x.Box.length = l8 := by
    obtain ⟨_, _, e⟩ := h8.len
    simp only [Value.slice.injEq] at e
    exact e.2.1.symm
  have hC := implWorkerOk_any d _ x W3 (HR.out W3 bw).1 hw hz
  have hcnt : cntL d x.State.L ≤ 1048576 ∧ cntL (d + 1) x.Box ≤ 1048576 := by
    have hz' : x.Name.size + (x.Mod.size + (szTm d x.State + szL (d + 1) x.Box)) ≤ 1048576 := hz
    have e1 : szTm d x.State = x.State.S.size + szL d x.State.L := rfl
    have := cntL_szL d x.State.L
    have := cntL_szL (d + 1) x.Box
    omega
  have HCN : Hid ((cntL d x.State.L ≤ 1048576 ∧ cntL (d + 1) x.Box ≤ 1048576) ∧ cntL d t.L ≤ 1048576 ∧ x.Box.length = l8 ∧ x.Box.length ≤ 1048576) := ⟨hcnt, htc, hl8, by
    have := len_cnt x.Box
    omega⟩
  have HTW : Hid (WfTm d t) := ht
  have HW3 : Hid (W3 = _) := hW3
  rw [hW3, hW2, hW1] at hC
  rw [hW2, hW1] at HW3
  have p0 : W3.cell? ⟨B, 0, none⟩ = some (.int .i64 x.Pid) := by rw [cell_of_row W3 _ 0 _ _ _ nP]; rfl
  have p1 : W3.cell? ⟨B, 1, none⟩ = some (.string x.Name) := by rw [cell_of_row W3 _ 1 _ _ _ nP]; rfl
  have p2 : W3.cell? ⟨B, 2, none⟩ = some (.string x.Mod) := by rw [cell_of_row W3 _ 2 _ _ _ nP]; rfl
  have p3 : W3.cell? ⟨B, 3, none⟩ = some (.int .i64 x.No) := by rw [cell_of_row W3 _ 3 _ _ _ nP]; rfl
  have p4 : W3.cell? ⟨B, 4, none⟩ = some (.int .i64 x.State.K) := by rw [cell_of_row W3 _ 4 _ _ _ nP]; rfl
  have p5 : W3.cell? ⟨B, 5, none⟩ = some (.int .i64 x.State.N) := by rw [cell_of_row W3 _ 5 _ _ _ nP]; rfl
  have p6 : W3.cell? ⟨B, 6, none⟩ = some (.string x.State.S) := by rw [cell_of_row W3 _ 6 _ _ _ nP]; rfl
  have p7 : W3.cell? ⟨B, 7, none⟩ = some (.slice a7 l7 c7) := by rw [cell_of_row W3 _ 7 _ _ _ nP]; rfl
  have p8 : W3.cell? ⟨B, 8, none⟩ = some (.slice a8 l8 c8) := by rw [cell_of_row W3 _ 8 _ _ _ nP]; rfl
  clear nP nT nZ hr h7 h8 hl hlr hW1 hW2 hW3 s1 s2 s3 b1 b2 b3 bw hw hz ht htc hcnt hl8
  go_enter Try.func14, Try.ntmps14
  go_wp2_with fail
  refine hC.mono ?_
  clear hC
  rw [← HW3.out]
  rintro e w4 ⟨bb, rfl, hbb, hb4⟩
  have HB4 : Hid ((bb = true ↔ pWorkerOk d x) ∧ Below W3.heap.size W3 w4) := ⟨hbb, hb4⟩
  obtain ⟨H40, H41, hZ_4, H43, H44⟩ := HST.out w4 hb4
  have HSZ_4 : Hid (B + 1 + 1 + 1 ≤ w4.heap.size) := H44
  have HBL_4 : Hid (Below w.heap.size w w4) := H43
  have q0 : w4.cell? ⟨B, 0, none⟩ = some (.int .i64 x.Pid) := by rw [cell_of_row w4 _ 0 _ _ _ H40]; rfl
  have q1 : w4.cell? ⟨B, 1, none⟩ = some (.string x.Name) := by rw [cell_of_row w4 _ 1 _ _ _ H40]; rfl
  have q2 : w4.cell? ⟨B, 2, none⟩ = some (.string x.Mod) := by rw [cell_of_row w4 _ 2 _ _ _ H40]; rfl
  have q3 : w4.cell? ⟨B, 3, none⟩ = some (.int .i64 x.No) := by rw [cell_of_row w4 _ 3 _ _ _ H40]; rfl
  have q4 : w4.cell? ⟨B, 4, none⟩ = some (.int .i64 x.State.K) := by rw [cell_of_row w4 _ 4 _ _ _ H40]; rfl
  have q5 : w4.cell? ⟨B, 5, none⟩ = some (.int .i64 x.State.N) := by rw [cell_of_row w4 _ 5 _ _ _ H40]; rfl
  have q6 : w4.cell? ⟨B, 6, none⟩ = some (.string x.State.S) := by rw [cell_of_row w4 _ 6 _ _ _ H40]; rfl
  have q7 : w4.cell? ⟨B, 7, none⟩ = some (.slice a7 l7 c7) := by rw [cell_of_row w4 _ 7 _ _ _ H40]; rfl
  have q8 : w4.cell? ⟨B, 8, none⟩ = some (.slice a8 l8 c8) := by rw [cell_of_row w4 _ 8 _ _ _ H40]; rfl
  have t0 : w4.cell? ⟨B + 1, 0, none⟩ = some (.int .i64 t.K) := by rw [cell_of_row w4 _ 0 _ _ _ H41]; rfl
  have t1 : w4.cell? ⟨B + 1, 1, none⟩ = some (.int .i64 t.N) := by rw [cell_of_row w4 _ 1 _ _ _ H41]; rfl
  have t2 : w4.cell? ⟨B + 1, 2, none⟩ = some (.string t.S) := by rw [cell_of_row w4 _ 2 _ _ _ H41]; rfl
  have t3 : w4.cell? ⟨B + 1, 3, none⟩ = some (.slice al ll lc) := by rw [cell_of_row w4 _ 3 _ _ _ H41]; rfl
  clear hbb hb4 p0 p1 p2 p3 p4 p5 p6 p7 p8 H40 H41 H43 H44 HW3
  cases bb with
  | false =>
    have HNO : Hid (¬ (pWorkerOk d x ∧ RightT d t ∧ x.Box.length < 20)) := fun h => by have := HB4.out.1.2 h.1; cases this
    have hC : Calls Try.prog 35 #[(.agg #[.int .i64 x.Pid, .string x.Name, .string x.Mod, .int .i64 x.No, .int .i64 x.State.K, .int .i64 x.State.N, .string x.State.S, .slice a7 l7 c7, .slice a8 l8 c8])] w4 fun e w' => ∃ (K N : Int) (S : ByteArray) (z7 z8 : Option Addr) (n7 o7 n8 o8 : Nat) (fp : List Nat), e = .returned (.agg #[.int .i64 x.Pid, .string x.Name, .string x.Mod, .int .i64 x.No, .int .i64 K, .int .i64 N, .string S, .slice z7 n7 o7, .slice z8 n8 o8]) ∧ Hid (WorkerO (d + 1) w' [.int .i64 x.Pid, .string x.Name, .string x.Mod, .int .i64 x.No, .int .i64 K, .int .i64 N, .string S, .slice z7 n7 o7, .slice z8 n8 o8] (upW x) fp ∧ Fresh w4.heap.size w' fp) ∧ Below w4.heap.size w4 w' := ownWorker_any d x a7 a8 l7 c7 l8 c8 w4 (HR.out w4 HBL_4.out).2.1 (HR.out w4 HBL_4.out).2.2.1 (by have := HCN.out.1; omega)
    go_wp2_with fail
    refine hC.mono ?_
    clear hC
    rintro e wv ⟨K, N, S, z7, z8, n7, o7, n8, o8, fp, rfl, HO, hbv⟩
    have zr := (hbv.block (B + 1 + 1) (lt_row hZ_4)).trans hZ_4
    have HRF : Hid (wv.heap[B + 1 + 1]? = some (.cells #[.int .i64 0, .string ⟨#[]⟩, .string ⟨#[]⟩, .int .i64 0, .int .i64 0, .int .i64 0, .string ⟨#[]⟩, .slice none 0 0, .slice none 0 0] 33 (0, 0)) ∧ Below w4.heap.size w4 wv) := ⟨zr, hbv⟩
    have e0 : wv.cell? ⟨B + 1 + 1, 0, none⟩ = some (.int .i64 0) := by rw [cell_of_row wv _ 0 _ _ _ zr]; rfl
    have ye0 : wv.frozen? ⟨B + 1 + 1, 0, none⟩ = false := frozen_of_row wv _ 0 _ _ zr
    have e1 : wv.cell? ⟨B + 1 + 1, 1, none⟩ = some (.string ⟨#[]⟩) := by rw [cell_of_row wv _ 1 _ _ _ zr]; rfl
    have ye1 : wv.frozen? ⟨B + 1 + 1, 1, none⟩ = false := frozen_of_row wv _ 1 _ _ zr
    have e2 : wv.cell? ⟨B + 1 + 1, 2, none⟩ = some (.string ⟨#[]⟩) := by rw [cell_of_row wv _ 2 _ _ _ zr]; rfl
    have ye2 : wv.frozen? ⟨B + 1 + 1, 2, none⟩ = false := frozen_of_row wv _ 2 _ _ zr
    have e3 : wv.cell? ⟨B + 1 + 1, 3, none⟩ = some (.int .i64 0) := by rw [cell_of_row wv _ 3 _ _ _ zr]; rfl
    have ye3 : wv.frozen? ⟨B + 1 + 1, 3, none⟩ = false := frozen_of_row wv _ 3 _ _ zr
    have e4 : wv.cell? ⟨B + 1 + 1, 4, none⟩ = some (.int .i64 0) := by rw [cell_of_row wv _ 4 _ _ _ zr]; rfl
    have ye4 : wv.frozen? ⟨B + 1 + 1, 4, none⟩ = false := frozen_of_row wv _ 4 _ _ zr
    have e5 : wv.cell? ⟨B + 1 + 1, 5, none⟩ = some (.int .i64 0) := by rw [cell_of_row wv _ 5 _ _ _ zr]; rfl
    have ye5 : wv.frozen? ⟨B + 1 + 1, 5, none⟩ = false := frozen_of_row wv _ 5 _ _ zr
    have e6 : wv.cell? ⟨B + 1 + 1, 6, none⟩ = some (.string ⟨#[]⟩) := by rw [cell_of_row wv _ 6 _ _ _ zr]; rfl
    have ye6 : wv.frozen? ⟨B + 1 + 1, 6, none⟩ = false := frozen_of_row wv _ 6 _ _ zr
    have e7 : wv.cell? ⟨B + 1 + 1, 7, none⟩ = some (.slice none 0 0) := by rw [cell_of_row wv _ 7 _ _ _ zr]; rfl
    have ye7 : wv.frozen? ⟨B + 1 + 1, 7, none⟩ = false := frozen_of_row wv _ 7 _ _ zr
    have e8 : wv.cell? ⟨B + 1 + 1, 8, none⟩ = some (.slice none 0 0) := by rw [cell_of_row wv _ 8 _ _ _ zr]; rfl
    have ye8 : wv.frozen? ⟨B + 1 + 1, 8, none⟩ = false := frozen_of_row wv _ 8 _ _ zr
    obtain ⟨wz, hwz⟩ : ∃ W, W = (((((((((wv.setCell ⟨B + 1 + 1, 0, none⟩ (.int .i64 x.Pid)).setCell ⟨B + 1 + 1, 1, none⟩ (.string x.Name)).setCell ⟨B + 1 + 1, 2, none⟩ (.string x.Mod)).setCell ⟨B + 1 + 1, 3, none⟩ (.int .i64 x.No)).setCell ⟨B + 1 + 1, 4, none⟩ (.int .i64 K)).setCell ⟨B + 1 + 1, 5, none⟩ (.int .i64 N)).setCell ⟨B + 1 + 1, 6, none⟩ (.string S)).setCell ⟨B + 1 + 1, 7, none⟩ (.slice z7 n7 o7)).setCell ⟨B + 1 + 1, 8, none⟩ (.slice z8 n8 o8)) := ⟨_, rfl⟩
    have nz : wz.heap[B + 1 + 1]? = some (.cells #[.int .i64 x.Pid, .string x.Name, .string x.Mod, .int .i64 x.No, .int .i64 K, .int .i64 N, .string S, .slice z7 n7 o7, .slice z8 n8 o8] 33 (0, 0)) := by
      rw [hwz]
      have zr0 : (wv.setCell ⟨B + 1 + 1, 0, none⟩ (.int .i64 x.Pid)).heap[B + 1 + 1]? = some (.cells #[.int .i64 x.Pid, .string ⟨#[]⟩, .string ⟨#[]⟩, .int .i64 0, .int .i64 0, .int .i64 0, .string ⟨#[]⟩, .slice none 0 0, .slice none 0 0] 33 (0, 0)) := heap_setCell_same _ (B + 1 + 1) 0 _ _ (.int .i64 x.Pid) HRF.out.1
      have zr1 : ((wv.setCell ⟨B + 1 + 1, 0, none⟩ (.int .i64 x.Pid)).setCell ⟨B + 1 + 1, 1, none⟩ (.string x.Name)).heap[B + 1 + 1]? = some (.cells #[.int .i64 x.Pid, .string x.Name, .string ⟨#[]⟩, .int .i64 0, .int .i64 0, .int .i64 0, .string ⟨#[]⟩, .slice none 0 0, .slice none 0 0] 33 (0, 0)) := heap_setCell_same _ (B + 1 + 1) 1 _ _ (.string x.Name) zr0
      have zr2 : (((wv.setCell ⟨B + 1 + 1, 0, none⟩ (.int .i64 x.Pid)).setCell ⟨B + 1 + 1, 1, none⟩ (.string x.Name)).setCell ⟨B + 1 + 1, 2, none⟩ (.string x.Mod)).heap[B + 1 + 1]? = some (.cells #[.int .i64 x.Pid, .string x.Name, .string x.Mod, .int .i64 0, .int .i64 0, .int .i64 0, .string ⟨#[]⟩, .slice none 0 0, .slice none 0 0] 33 (0, 0)) := heap_setCell_same _ (B + 1 + 1) 2 _ _ (.string x.Mod) zr1
      have zr3 : ((((wv.setCell ⟨B + 1 + 1, 0, none⟩ (.int .i64 x.Pid)).setCell ⟨B + 1 + 1, 1, none⟩ (.string x.Name)).setCell ⟨B + 1 + 1, 2, none⟩ (.string x.Mod)).setCell ⟨B + 1 + 1, 3, none⟩ (.int .i64 x.No)).heap[B + 1 + 1]? = some (.cells #[.int .i64 x.Pid, .string x.Name, .string x.Mod, .int .i64 x.No, .int .i64 0, .int .i64 0, .string ⟨#[]⟩, .slice none 0 0, .slice none 0 0] 33 (0, 0)) := heap_setCell_same _ (B + 1 + 1) 3 _ _ (.int .i64 x.No) zr2
      have zr4 : (((((wv.setCell ⟨B + 1 + 1, 0, none⟩ (.int .i64 x.Pid)).setCell ⟨B + 1 + 1, 1, none⟩ (.string x.Name)).setCell ⟨B + 1 + 1, 2, none⟩ (.string x.Mod)).setCell ⟨B + 1 + 1, 3, none⟩ (.int .i64 x.No)).setCell ⟨B + 1 + 1, 4, none⟩ (.int .i64 K)).heap[B + 1 + 1]? = some (.cells #[.int .i64 x.Pid, .string x.Name, .string x.Mod, .int .i64 x.No, .int .i64 K, .int .i64 0, .string ⟨#[]⟩, .slice none 0 0, .slice none 0 0] 33 (0, 0)) := heap_setCell_same _ (B + 1 + 1) 4 _ _ (.int .i64 K) zr3
      have zr5 : ((((((wv.setCell ⟨B + 1 + 1, 0, none⟩ (.int .i64 x.Pid)).setCell ⟨B + 1 + 1, 1, none⟩ (.string x.Name)).setCell ⟨B + 1 + 1, 2, none⟩ (.string x.Mod)).setCell ⟨B + 1 + 1, 3, none⟩ (.int .i64 x.No)).setCell ⟨B + 1 + 1, 4, none⟩ (.int .i64 K)).setCell ⟨B + 1 + 1, 5, none⟩ (.int .i64 N)).heap[B + 1 + 1]? = some (.cells #[.int .i64 x.Pid, .string x.Name, .string x.Mod, .int .i64 x.No, .int .i64 K, .int .i64 N, .string ⟨#[]⟩, .slice none 0 0, .slice none 0 0] 33 (0, 0)) := heap_setCell_same _ (B + 1 + 1) 5 _ _ (.int .i64 N) zr4
      have zr6 : (((((((wv.setCell ⟨B + 1 + 1, 0, none⟩ (.int .i64 x.Pid)).setCell ⟨B + 1 + 1, 1, none⟩ (.string x.Name)).setCell ⟨B + 1 + 1, 2, none⟩ (.string x.Mod)).setCell ⟨B + 1 + 1, 3, none⟩ (.int .i64 x.No)).setCell ⟨B + 1 + 1, 4, none⟩ (.int .i64 K)).setCell ⟨B + 1 + 1, 5, none⟩ (.int .i64 N)).setCell ⟨B + 1 + 1, 6, none⟩ (.string S)).heap[B + 1 + 1]? = some (.cells #[.int .i64 x.Pid, .string x.Name, .string x.Mod, .int .i64 x.No, .int .i64 K, .int .i64 N, .string S, .slice none 0 0, .slice none 0 0] 33 (0, 0)) := heap_setCell_same _ (B + 1 + 1) 6 _ _ (.string S) zr5
      have zr7 : ((((((((wv.setCell ⟨B + 1 + 1, 0, none⟩ (.int .i64 x.Pid)).setCell ⟨B + 1 + 1, 1, none⟩ (.string x.Name)).setCell ⟨B + 1 + 1, 2, none⟩ (.string x.Mod)).setCell ⟨B + 1 + 1, 3, none⟩ (.int .i64 x.No)).setCell ⟨B + 1 + 1, 4, none⟩ (.int .i64 K)).setCell ⟨B + 1 + 1, 5, none⟩ (.int .i64 N)).setCell ⟨B + 1 + 1, 6, none⟩ (.string S)).setCell ⟨B + 1 + 1, 7, none⟩ (.slice z7 n7 o7)).heap[B + 1 + 1]? = some (.cells #[.int .i64 x.Pid, .string x.Name, .string x.Mod, .int .i64 x.No, .int .i64 K, .int .i64 N, .string S, .slice z7 n7 o7, .slice none 0 0] 33 (0, 0)) := heap_setCell_same _ (B + 1 + 1) 7 _ _ (.slice z7 n7 o7) zr6
      have zr8 : (((((((((wv.setCell ⟨B + 1 + 1, 0, none⟩ (.int .i64 x.Pid)).setCell ⟨B + 1 + 1, 1, none⟩ (.string x.Name)).setCell ⟨B + 1 + 1, 2, none⟩ (.string x.Mod)).setCell ⟨B + 1 + 1, 3, none⟩ (.int .i64 x.No)).setCell ⟨B + 1 + 1, 4, none⟩ (.int .i64 K)).setCell ⟨B + 1 + 1, 5, none⟩ (.int .i64 N)).setCell ⟨B + 1 + 1, 6, none⟩ (.string S)).setCell ⟨B + 1 + 1, 7, none⟩ (.slice z7 n7 o7)).setCell ⟨B + 1 + 1, 8, none⟩ (.slice z8 n8 o8)).heap[B + 1 + 1]? = some (.cells #[.int .i64 x.Pid, .string x.Name, .string x.Mod, .int .i64 x.No, .int .i64 K, .int .i64 N, .string S, .slice z7 n7 o7, .slice z8 n8 o8] 33 (0, 0)) := heap_setCell_same _ (B + 1 + 1) 8 _ _ (.slice z8 n8 o8) zr7
      exact zr8
    have hKz : Kept (B + 1 + 1) (B + 1 + 1 + 1) wv wz := by
      rw [hwz]
      repeat (first | with_reducible exact Kept.refl _ _ _ | with_reducible refine Kept.drew ?_ | (with_reducible refine Kept.set ?_ ?_; omega))
    have HE : Hid (PwRes x t w (.returned (.tuple #[(.agg #[.int .i64 x.Pid, .string x.Name, .string x.Mod, .int .i64 x.No, .int .i64 K, .int .i64 N, .string S, .slice z7 n7 o7, .slice z8 n8 o8]), .bool false])) wz ∧ wz.heap[B + 1 + 1]? = some (.cells #[.int .i64 x.Pid, .string x.Name, .string x.Mod, .int .i64 x.No, .int .i64 K, .int .i64 N, .string S, .slice z7 n7 o7, .slice z8 n8 o8] 33 (0, 0))) := by
      refine ⟨⟨x, false, K, N, S, z7, z8, n7, o7, n8, o8, fp, rfl, ⟨.inr ⟨rfl, HNO.out, rfl⟩, WorkerO.lasts (d + 1) _ _ _ _ _ HO.out.1 fun g hg => hKz.block g (HO.out.2.2 g hg).2 (.inr ?_), HO.out.2.1, fun g hg => ?_⟩, ?_⟩, nz⟩
      · have h1 := (HO.out.2.2 g hg).1
        have h2 := lt_row hZ_4
        have h3 := HSZ_4.out
        omega
      · have h1 := HO.out.2.2 g hg
        have h3 := HSZ_4.out
        have h4 := hKz.size
        have h5 := HB.out
        omega
      · have h1 : Below w.heap.size w wv := HBL_4.out.trans (hbv.mono HBL_4.out.size)
        exact h1.trans (hKz.below (by have := HB.out.1; omega) h1.size)
    have HWZ : Hid (wz = _) := hwz
    clear zr hwz nz hKz HO hbv HRF
    go_wp2_with fail
    rw [← HWZ.out]
    refine bodyPost_ret (res_two Try.f14 _ 4 5 (B + 1 + 1) false wz _ _ _ _ _ _ _ _ _ rfl rfl rfl HE.out.2) rfl HE.out.1
  | true =>
    have HPW : Hid (pWorkerOk d x) := HB4.out.1.1 rfl
    have hC := termOk_any d t.K t.N t.S (.slice al ll lc) t.L w4 (HR.out w4 HBL_4.out).2.2.2.2 HTW.out.2.2.2 (Nat.le_trans HTW.out.2.2.1 (by decide))
    go_wp2_with fail
    refine hC.mono ?_
    clear hC q0 q1 q2 q3 q4 q5 q6 q7 q8 t0 t1 t2 t3
    rintro e w5 ⟨bt, rfl, hbt, hb5⟩
    have HB5 : Hid ((bt = true ↔ RightT d t) ∧ Below W3.heap.size W3 w5) := ⟨hbt, HB4.out.2.trans (hb5.mono HB4.out.2.size)⟩
    obtain ⟨H40, H41, hZ_5, H43, H44⟩ := HST.out w5 HB5.out.2
    have HSZ_5 : Hid (B + 1 + 1 + 1 ≤ w5.heap.size) := H44
    have HBL_5 : Hid (Below w.heap.size w w5) := H43
    have q0 : w5.cell? ⟨B, 0, none⟩ = some (.int .i64 x.Pid) := by rw [cell_of_row w5 _ 0 _ _ _ H40]; rfl
    have yq0 : w5.frozen? ⟨B, 0, none⟩ = false := frozen_of_row w5 _ 0 _ _ H40
    have q1 : w5.cell? ⟨B, 1, none⟩ = some (.string x.Name) := by rw [cell_of_row w5 _ 1 _ _ _ H40]; rfl
    have yq1 : w5.frozen? ⟨B, 1, none⟩ = false := frozen_of_row w5 _ 1 _ _ H40
    have q2 : w5.cell? ⟨B, 2, none⟩ = some (.string x.Mod) := by rw [cell_of_row w5 _ 2 _ _ _ H40]; rfl
    have yq2 : w5.frozen? ⟨B, 2, none⟩ = false := frozen_of_row w5 _ 2 _ _ H40
    have q3 : w5.cell? ⟨B, 3, none⟩ = some (.int .i64 x.No) := by rw [cell_of_row w5 _ 3 _ _ _ H40]; rfl
    have yq3 : w5.frozen? ⟨B, 3, none⟩ = false := frozen_of_row w5 _ 3 _ _ H40
    have q4 : w5.cell? ⟨B, 4, none⟩ = some (.int .i64 x.State.K) := by rw [cell_of_row w5 _ 4 _ _ _ H40]; rfl
    have yq4 : w5.frozen? ⟨B, 4, none⟩ = false := frozen_of_row w5 _ 4 _ _ H40
    have q5 : w5.cell? ⟨B, 5, none⟩ = some (.int .i64 x.State.N) := by rw [cell_of_row w5 _ 5 _ _ _ H40]; rfl
    have yq5 : w5.frozen? ⟨B, 5, none⟩ = false := frozen_of_row w5 _ 5 _ _ H40
    have q6 : w5.cell? ⟨B, 6, none⟩ = some (.string x.State.S) := by rw [cell_of_row w5 _ 6 _ _ _ H40]; rfl
    have yq6 : w5.frozen? ⟨B, 6, none⟩ = false := frozen_of_row w5 _ 6 _ _ H40
    have q7 : w5.cell? ⟨B, 7, none⟩ = some (.slice a7 l7 c7) := by rw [cell_of_row w5 _ 7 _ _ _ H40]; rfl
    have yq7 : w5.frozen? ⟨B, 7, none⟩ = false := frozen_of_row w5 _ 7 _ _ H40
    have q8 : w5.cell? ⟨B, 8, none⟩ = some (.slice a8 l8 c8) := by rw [cell_of_row w5 _ 8 _ _ _ H40]; rfl
    have yq8 : w5.frozen? ⟨B, 8, none⟩ = false := frozen_of_row w5 _ 8 _ _ H40
    have t0 : w5.cell? ⟨B + 1, 0, none⟩ = some (.int .i64 t.K) := by rw [cell_of_row w5 _ 0 _ _ _ H41]; rfl
    have t1 : w5.cell? ⟨B + 1, 1, none⟩ = some (.int .i64 t.N) := by rw [cell_of_row w5 _ 1 _ _ _ H41]; rfl
    have t2 : w5.cell? ⟨B + 1, 2, none⟩ = some (.string t.S) := by rw [cell_of_row w5 _ 2 _ _ _ H41]; rfl
    have t3 : w5.cell? ⟨B + 1, 3, none⟩ = some (.slice al ll lc) := by rw [cell_of_row w5 _ 3 _ _ _ H41]; rfl
    have HP5 : Hid (w5.heap[B]? = some (.cells #[.int .i64 x.Pid, .string x.Name, .string x.Mod, .int .i64 x.No, .int .i64 x.State.K, .int .i64 x.State.N, .string x.State.S, .slice a7 l7 c7, .slice a8 l8 c8] 33 (0, 0))) := H40
    clear hbt hb5 H40 H41 H43 H44 hZ_4 HSZ_4 HBL_4
    cases bt with
    | false =>
      have HNO : Hid (¬ (pWorkerOk d x ∧ RightT d t ∧ x.Box.length < 20)) := fun h => by have := HB5.out.1.2 h.2.1; cases this
      have hC : Calls Try.prog 35 #[(.agg #[.int .i64 x.Pid, .string x.Name, .string x.Mod, .int .i64 x.No, .int .i64 x.State.K, .int .i64 x.State.N, .string x.State.S, .slice a7 l7 c7, .slice a8 l8 c8])] w5 fun e w' => ∃ (K N : Int) (S : ByteArray) (z7 z8 : Option Addr) (n7 o7 n8 o8 : Nat) (fp : List Nat), e = .returned (.agg #[.int .i64 x.Pid, .string x.Name, .string x.Mod, .int .i64 x.No, .int .i64 K, .int .i64 N, .string S, .slice z7 n7 o7, .slice z8 n8 o8]) ∧ Hid (WorkerO (d + 1) w' [.int .i64 x.Pid, .string x.Name, .string x.Mod, .int .i64 x.No, .int .i64 K, .int .i64 N, .string S, .slice z7 n7 o7, .slice z8 n8 o8] (upW x) fp ∧ Fresh w5.heap.size w' fp) ∧ Below w5.heap.size w5 w' := ownWorker_any d x a7 a8 l7 c7 l8 c8 w5 (HR.out w5 HBL_5.out).2.1 (HR.out w5 HBL_5.out).2.2.1 (by have := HCN.out.1; omega)
      go_wp2_with fail
      refine hC.mono ?_
      clear hC
      rintro e wv ⟨K, N, S, z7, z8, n7, o7, n8, o8, fp, rfl, HO, hbv⟩
      have zr := (hbv.block (B + 1 + 1) (lt_row hZ_5)).trans hZ_5
      have HRF : Hid (wv.heap[B + 1 + 1]? = some (.cells #[.int .i64 0, .string ⟨#[]⟩, .string ⟨#[]⟩, .int .i64 0, .int .i64 0, .int .i64 0, .string ⟨#[]⟩, .slice none 0 0, .slice none 0 0] 33 (0, 0)) ∧ Below w5.heap.size w5 wv) := ⟨zr, hbv⟩
      have e0 : wv.cell? ⟨B + 1 + 1, 0, none⟩ = some (.int .i64 0) := by rw [cell_of_row wv _ 0 _ _ _ zr]; rfl
      have ye0 : wv.frozen? ⟨B + 1 + 1, 0, none⟩ = false := frozen_of_row wv _ 0 _ _ zr
      have e1 : wv.cell? ⟨B + 1 + 1, 1, none⟩ = some (.string ⟨#[]⟩) := by rw [cell_of_row wv _ 1 _ _ _ zr]; rfl
      have ye1 : wv.frozen? ⟨B + 1 + 1, 1, none⟩ = false := frozen_of_row wv _ 1 _ _ zr
      have e2 : wv.cell? ⟨B + 1 + 1, 2, none⟩ = some (.string ⟨#[]⟩) := by rw [cell_of_row wv _ 2 _ _ _ zr]; rfl
      have ye2 : wv.frozen? ⟨B + 1 + 1, 2, none⟩ = false := frozen_of_row wv _ 2 _ _ zr
      have e3 : wv.cell? ⟨B + 1 + 1, 3, none⟩ = some (.int .i64 0) := by rw [cell_of_row wv _ 3 _ _ _ zr]; rfl
      have ye3 : wv.frozen? ⟨B + 1 + 1, 3, none⟩ = false := frozen_of_row wv _ 3 _ _ zr
      have e4 : wv.cell? ⟨B + 1 + 1, 4, none⟩ = some (.int .i64 0) := by rw [cell_of_row wv _ 4 _ _ _ zr]; rfl
      have ye4 : wv.frozen? ⟨B + 1 + 1, 4, none⟩ = false := frozen_of_row wv _ 4 _ _ zr
      have e5 : wv.cell? ⟨B + 1 + 1, 5, none⟩ = some (.int .i64 0) := by rw [cell_of_row wv _ 5 _ _ _ zr]; rfl
      have ye5 : wv.frozen? ⟨B + 1 + 1, 5, none⟩ = false := frozen_of_row wv _ 5 _ _ zr
      have e6 : wv.cell? ⟨B + 1 + 1, 6, none⟩ = some (.string ⟨#[]⟩) := by rw [cell_of_row wv _ 6 _ _ _ zr]; rfl
      have ye6 : wv.frozen? ⟨B + 1 + 1, 6, none⟩ = false := frozen_of_row wv _ 6 _ _ zr
      have e7 : wv.cell? ⟨B + 1 + 1, 7, none⟩ = some (.slice none 0 0) := by rw [cell_of_row wv _ 7 _ _ _ zr]; rfl
      have ye7 : wv.frozen? ⟨B + 1 + 1, 7, none⟩ = false := frozen_of_row wv _ 7 _ _ zr
      have e8 : wv.cell? ⟨B + 1 + 1, 8, none⟩ = some (.slice none 0 0) := by rw [cell_of_row wv _ 8 _ _ _ zr]; rfl
      have ye8 : wv.frozen? ⟨B + 1 + 1, 8, none⟩ = false := frozen_of_row wv _ 8 _ _ zr
      obtain ⟨wz, hwz⟩ : ∃ W, W = (((((((((wv.setCell ⟨B + 1 + 1, 0, none⟩ (.int .i64 x.Pid)).setCell ⟨B + 1 + 1, 1, none⟩ (.string x.Name)).setCell ⟨B + 1 + 1, 2, none⟩ (.string x.Mod)).setCell ⟨B + 1 + 1, 3, none⟩ (.int .i64 x.No)).setCell ⟨B + 1 + 1, 4, none⟩ (.int .i64 K)).setCell ⟨B + 1 + 1, 5, none⟩ (.int .i64 N)).setCell ⟨B + 1 + 1, 6, none⟩ (.string S)).setCell ⟨B + 1 + 1, 7, none⟩ (.slice z7 n7 o7)).setCell ⟨B + 1 + 1, 8, none⟩ (.slice z8 n8 o8)) := ⟨_, rfl⟩
      have nz : wz.heap[B + 1 + 1]? = some (.cells #[.int .i64 x.Pid, .string x.Name, .string x.Mod, .int .i64 x.No, .int .i64 K, .int .i64 N, .string S, .slice z7 n7 o7, .slice z8 n8 o8] 33 (0, 0)) := by
        rw [hwz]
        have zr0 : (wv.setCell ⟨B + 1 + 1, 0, none⟩ (.int .i64 x.Pid)).heap[B + 1 + 1]? = some (.cells #[.int .i64 x.Pid, .string ⟨#[]⟩, .string ⟨#[]⟩, .int .i64 0, .int .i64 0, .int .i64 0, .string ⟨#[]⟩, .slice none 0 0, .slice none 0 0] 33 (0, 0)) := heap_setCell_same _ (B + 1 + 1) 0 _ _ (.int .i64 x.Pid) HRF.out.1
        have zr1 : ((wv.setCell ⟨B + 1 + 1, 0, none⟩ (.int .i64 x.Pid)).setCell ⟨B + 1 + 1, 1, none⟩ (.string x.Name)).heap[B + 1 + 1]? = some (.cells #[.int .i64 x.Pid, .string x.Name, .string ⟨#[]⟩, .int .i64 0, .int .i64 0, .int .i64 0, .string ⟨#[]⟩, .slice none 0 0, .slice none 0 0] 33 (0, 0)) := heap_setCell_same _ (B + 1 + 1) 1 _ _ (.string x.Name) zr0
        have zr2 : (((wv.setCell ⟨B + 1 + 1, 0, none⟩ (.int .i64 x.Pid)).setCell ⟨B + 1 + 1, 1, none⟩ (.string x.Name)).setCell ⟨B + 1 + 1, 2, none⟩ (.string x.Mod)).heap[B + 1 + 1]? = some (.cells #[.int .i64 x.Pid, .string x.Name, .string x.Mod, .int .i64 0, .int .i64 0, .int .i64 0, .string ⟨#[]⟩, .slice none 0 0, .slice none 0 0] 33 (0, 0)) := heap_setCell_same _ (B + 1 + 1) 2 _ _ (.string x.Mod) zr1
        have zr3 : ((((wv.setCell ⟨B + 1 + 1, 0, none⟩ (.int .i64 x.Pid)).setCell ⟨B + 1 + 1, 1, none⟩ (.string x.Name)).setCell ⟨B + 1 + 1, 2, none⟩ (.string x.Mod)).setCell ⟨B + 1 + 1, 3, none⟩ (.int .i64 x.No)).heap[B + 1 + 1]? = some (.cells #[.int .i64 x.Pid, .string x.Name, .string x.Mod, .int .i64 x.No, .int .i64 0, .int .i64 0, .string ⟨#[]⟩, .slice none 0 0, .slice none 0 0] 33 (0, 0)) := heap_setCell_same _ (B + 1 + 1) 3 _ _ (.int .i64 x.No) zr2
        have zr4 : (((((wv.setCell ⟨B + 1 + 1, 0, none⟩ (.int .i64 x.Pid)).setCell ⟨B + 1 + 1, 1, none⟩ (.string x.Name)).setCell ⟨B + 1 + 1, 2, none⟩ (.string x.Mod)).setCell ⟨B + 1 + 1, 3, none⟩ (.int .i64 x.No)).setCell ⟨B + 1 + 1, 4, none⟩ (.int .i64 K)).heap[B + 1 + 1]? = some (.cells #[.int .i64 x.Pid, .string x.Name, .string x.Mod, .int .i64 x.No, .int .i64 K, .int .i64 0, .string ⟨#[]⟩, .slice none 0 0, .slice none 0 0] 33 (0, 0)) := heap_setCell_same _ (B + 1 + 1) 4 _ _ (.int .i64 K) zr3
        have zr5 : ((((((wv.setCell ⟨B + 1 + 1, 0, none⟩ (.int .i64 x.Pid)).setCell ⟨B + 1 + 1, 1, none⟩ (.string x.Name)).setCell ⟨B + 1 + 1, 2, none⟩ (.string x.Mod)).setCell ⟨B + 1 + 1, 3, none⟩ (.int .i64 x.No)).setCell ⟨B + 1 + 1, 4, none⟩ (.int .i64 K)).setCell ⟨B + 1 + 1, 5, none⟩ (.int .i64 N)).heap[B + 1 + 1]? = some (.cells #[.int .i64 x.Pid, .string x.Name, .string x.Mod, .int .i64 x.No, .int .i64 K, .int .i64 N, .string ⟨#[]⟩, .slice none 0 0, .slice none 0 0] 33 (0, 0)) := heap_setCell_same _ (B + 1 + 1) 5 _ _ (.int .i64 N) zr4
        have zr6 : (((((((wv.setCell ⟨B + 1 + 1, 0, none⟩ (.int .i64 x.Pid)).setCell ⟨B + 1 + 1, 1, none⟩ (.string x.Name)).setCell ⟨B + 1 + 1, 2, none⟩ (.string x.Mod)).setCell ⟨B + 1 + 1, 3, none⟩ (.int .i64 x.No)).setCell ⟨B + 1 + 1, 4, none⟩ (.int .i64 K)).setCell ⟨B + 1 + 1, 5, none⟩ (.int .i64 N)).setCell ⟨B + 1 + 1, 6, none⟩ (.string S)).heap[B + 1 + 1]? = some (.cells #[.int .i64 x.Pid, .string x.Name, .string x.Mod, .int .i64 x.No, .int .i64 K, .int .i64 N, .string S, .slice none 0 0, .slice none 0 0] 33 (0, 0)) := heap_setCell_same _ (B + 1 + 1) 6 _ _ (.string S) zr5
        have zr7 : ((((((((wv.setCell ⟨B + 1 + 1, 0, none⟩ (.int .i64 x.Pid)).setCell ⟨B + 1 + 1, 1, none⟩ (.string x.Name)).setCell ⟨B + 1 + 1, 2, none⟩ (.string x.Mod)).setCell ⟨B + 1 + 1, 3, none⟩ (.int .i64 x.No)).setCell ⟨B + 1 + 1, 4, none⟩ (.int .i64 K)).setCell ⟨B + 1 + 1, 5, none⟩ (.int .i64 N)).setCell ⟨B + 1 + 1, 6, none⟩ (.string S)).setCell ⟨B + 1 + 1, 7, none⟩ (.slice z7 n7 o7)).heap[B + 1 + 1]? = some (.cells #[.int .i64 x.Pid, .string x.Name, .string x.Mod, .int .i64 x.No, .int .i64 K, .int .i64 N, .string S, .slice z7 n7 o7, .slice none 0 0] 33 (0, 0)) := heap_setCell_same _ (B + 1 + 1) 7 _ _ (.slice z7 n7 o7) zr6
        have zr8 : (((((((((wv.setCell ⟨B + 1 + 1, 0, none⟩ (.int .i64 x.Pid)).setCell ⟨B + 1 + 1, 1, none⟩ (.string x.Name)).setCell ⟨B + 1 + 1, 2, none⟩ (.string x.Mod)).setCell ⟨B + 1 + 1, 3, none⟩ (.int .i64 x.No)).setCell ⟨B + 1 + 1, 4, none⟩ (.int .i64 K)).setCell ⟨B + 1 + 1, 5, none⟩ (.int .i64 N)).setCell ⟨B + 1 + 1, 6, none⟩ (.string S)).setCell ⟨B + 1 + 1, 7, none⟩ (.slice z7 n7 o7)).setCell ⟨B + 1 + 1, 8, none⟩ (.slice z8 n8 o8)).heap[B + 1 + 1]? = some (.cells #[.int .i64 x.Pid, .string x.Name, .string x.Mod, .int .i64 x.No, .int .i64 K, .int .i64 N, .string S, .slice z7 n7 o7, .slice z8 n8 o8] 33 (0, 0)) := heap_setCell_same _ (B + 1 + 1) 8 _ _ (.slice z8 n8 o8) zr7
        exact zr8
      have hKz : Kept (B + 1 + 1) (B + 1 + 1 + 1) wv wz := by
        rw [hwz]
        repeat (first | with_reducible exact Kept.refl _ _ _ | with_reducible refine Kept.drew ?_ | (with_reducible refine Kept.set ?_ ?_; omega))
      have HE : Hid (PwRes x t w (.returned (.tuple #[(.agg #[.int .i64 x.Pid, .string x.Name, .string x.Mod, .int .i64 x.No, .int .i64 K, .int .i64 N, .string S, .slice z7 n7 o7, .slice z8 n8 o8]), .bool false])) wz ∧ wz.heap[B + 1 + 1]? = some (.cells #[.int .i64 x.Pid, .string x.Name, .string x.Mod, .int .i64 x.No, .int .i64 K, .int .i64 N, .string S, .slice z7 n7 o7, .slice z8 n8 o8] 33 (0, 0))) := by
        refine ⟨⟨x, false, K, N, S, z7, z8, n7, o7, n8, o8, fp, rfl, ⟨.inr ⟨rfl, HNO.out, rfl⟩, WorkerO.lasts (d + 1) _ _ _ _ _ HO.out.1 fun g hg => hKz.block g (HO.out.2.2 g hg).2 (.inr ?_), HO.out.2.1, fun g hg => ?_⟩, ?_⟩, nz⟩
        · have h1 := (HO.out.2.2 g hg).1
          have h2 := lt_row hZ_5
          have h3 := HSZ_5.out
          omega
        · have h1 := HO.out.2.2 g hg
          have h3 := HSZ_5.out
          have h4 := hKz.size
          have h5 := HB.out
          omega
        · have h1 : Below w.heap.size w wv := HBL_5.out.trans (hbv.mono HBL_5.out.size)
          exact h1.trans (hKz.below (by have := HB.out.1; omega) h1.size)
      have HWZ : Hid (wz = _) := hwz
      clear zr hwz nz hKz HO hbv HRF
      go_wp2_with fail
      rw [← HWZ.out]
      refine bodyPost_ret (res_two Try.f14 _ 4 5 (B + 1 + 1) false wz _ _ _ _ _ _ _ _ _ rfl rfl rfl HE.out.2) rfl HE.out.1
    | true =>
      have HRT : Hid (RightT d t) := HB5.out.1.1 rfl
      have hC := put_any d a8 al l8 c8 ll lc x.Box t w w5 (HR.out w (Below.refl _ _)).2.2.1 (HR.out w (Below.refl _ _)).2.2.2.1 HBL_5.out HCN.out.2.2.1 (by have := HCN.out.2.2; omega)
      go_wp2_with fail
      refine hC.mono ?_
      clear hC q0 yq0 q1 yq1 q2 yq2 q3 yq3 q4 yq4 q5 yq5 q6 yq6 q7 yq7 q8 yq8 t0 t1 t2 t3
      rintro e w6 ⟨ax, mx, cx, bx, rfl, HP, hb6⟩
      have n6 := (hb6.block B (lt_row HP5.out)).trans HP5.out
      have z6 := (hb6.block (B + 1 + 1) (lt_row hZ_5)).trans hZ_5
      obtain ⟨w7, hw7⟩ : ∃ W, W = w6.setCell ⟨B, 8, none⟩ (.slice ax mx cx) := ⟨_, rfl⟩
      have n7 : w7.heap[B]? = some (.cells #[.int .i64 x.Pid, .string x.Name, .string x.Mod, .int .i64 x.No, .int .i64 x.State.K, .int .i64 x.State.N, .string x.State.S, .slice a7 l7 c7, .slice ax mx cx] 33 (0, 0)) := by rw [hw7]; exact heap_setCell_same w6 B 8 _ _ _ n6
      have hZ_7 : w7.heap[B + 1 + 1]? = some (.cells #[.int .i64 0, .string ⟨#[]⟩, .string ⟨#[]⟩, .int .i64 0, .int .i64 0, .int .i64 0, .string ⟨#[]⟩, .slice none 0 0, .slice none 0 0] 33 (0, 0)) := by rw [hw7]; exact (heap_setCell_other w6 ⟨B, 8, none⟩ (B + 1 + 1) _ (by show B + 1 + 1 ≠ B; omega)).trans z6
      have HSZ_7 : Hid (B + 1 + 1 + 1 ≤ w7.heap.size) := by show _ ≤ _; rw [hw7]; have := HSZ_5.out; have := hb6.size; simp; omega
      have hb6w : Below w.heap.size w w6 := HBL_5.out.trans (hb6.mono HBL_5.out.size)
      have HBL_7 : Hid (Below w.heap.size w w7) := by show Below _ _ _; rw [hw7]; exact hb6w.setCell (p := ⟨B, 8, none⟩) (by show w.heap.size ≤ B; have := HB.out.1; omega) _
      have HBX : Hid ((bx = true ∧ l8 < 20 ∧ RdQ (d + 1) w7 (.slice ax mx cx) (x.Box ++ [t])) ∨ (bx = false ∧ 20 ≤ l8 ∧ RdQ (d + 1) w7 (.slice ax mx cx) x.Box)) := by
        rcases HP.out with ⟨h1, h2, g, h3, h4, h5⟩ | ⟨h1, h2, h3⟩
        · refine .inl ⟨h1, h2, h5 w7 HBL_7.out ?_⟩
          rw [hw7]
          exact heap_setCell_other w6 ⟨B, 8, none⟩ g _ (by show g ≠ B; have := HSZ_5.out; omega)
        · exact .inr ⟨h1, h2, h3 w7 HBL_7.out⟩
      have q0 : w6.cell? ⟨B, 0, none⟩ = some (.int .i64 x.Pid) := by rw [cell_of_row w6 _ 0 _ _ _ n6]; rfl
      have yq0 : w6.frozen? ⟨B, 0, none⟩ = false := frozen_of_row w6 _ 0 _ _ n6
      have q1 : w6.cell? ⟨B, 1, none⟩ = some (.string x.Name) := by rw [cell_of_row w6 _ 1 _ _ _ n6]; rfl
      have yq1 : w6.frozen? ⟨B, 1, none⟩ = false := frozen_of_row w6 _ 1 _ _ n6
      have q2 : w6.cell? ⟨B, 2, none⟩ = some (.string x.Mod) := by rw [cell_of_row w6 _ 2 _ _ _ n6]; rfl
      have yq2 : w6.frozen? ⟨B, 2, none⟩ = false := frozen_of_row w6 _ 2 _ _ n6
      have q3 : w6.cell? ⟨B, 3, none⟩ = some (.int .i64 x.No) := by rw [cell_of_row w6 _ 3 _ _ _ n6]; rfl
      have yq3 : w6.frozen? ⟨B, 3, none⟩ = false := frozen_of_row w6 _ 3 _ _ n6
      have q4 : w6.cell? ⟨B, 4, none⟩ = some (.int .i64 x.State.K) := by rw [cell_of_row w6 _ 4 _ _ _ n6]; rfl
      have yq4 : w6.frozen? ⟨B, 4, none⟩ = false := frozen_of_row w6 _ 4 _ _ n6
      have q5 : w6.cell? ⟨B, 5, none⟩ = some (.int .i64 x.State.N) := by rw [cell_of_row w6 _ 5 _ _ _ n6]; rfl
      have yq5 : w6.frozen? ⟨B, 5, none⟩ = false := frozen_of_row w6 _ 5 _ _ n6
      have q6 : w6.cell? ⟨B, 6, none⟩ = some (.string x.State.S) := by rw [cell_of_row w6 _ 6 _ _ _ n6]; rfl
      have yq6 : w6.frozen? ⟨B, 6, none⟩ = false := frozen_of_row w6 _ 6 _ _ n6
      have q7 : w6.cell? ⟨B, 7, none⟩ = some (.slice a7 l7 c7) := by rw [cell_of_row w6 _ 7 _ _ _ n6]; rfl
      have yq7 : w6.frozen? ⟨B, 7, none⟩ = false := frozen_of_row w6 _ 7 _ _ n6
      have q8 : w6.cell? ⟨B, 8, none⟩ = some (.slice a8 l8 c8) := by rw [cell_of_row w6 _ 8 _ _ _ n6]; rfl
      have yq8 : w6.frozen? ⟨B, 8, none⟩ = false := frozen_of_row w6 _ 8 _ _ n6
      have HW7 : Hid (w7 = _) := hw7
      clear z6 n6 hw7 HP hb6 hb6w
      rcases HBX.out with ⟨rfl, hlt, hq⟩ | ⟨rfl, hge, hq⟩
      · have HYES : Hid (pWorkerOk d x ∧ RightT d t ∧ x.Box.length < 20) := ⟨HPW.out, HRT.out, by have := HCN.out.2.2.1; omega⟩
        have hC : Calls Try.prog 35 #[(.agg #[.int .i64 x.Pid, .string x.Name, .string x.Mod, .int .i64 x.No, .int .i64 x.State.K, .int .i64 x.State.N, .string x.State.S, .slice a7 l7 c7, .slice ax mx cx])] w7 fun e w' => ∃ (K N : Int) (S : ByteArray) (z7 z8 : Option Addr) (n7 o7 n8 o8 : Nat) (fp : List Nat), e = .returned (.agg #[.int .i64 x.Pid, .string x.Name, .string x.Mod, .int .i64 x.No, .int .i64 K, .int .i64 N, .string S, .slice z7 n7 o7, .slice z8 n8 o8]) ∧ Hid (WorkerO (d + 1) w' [.int .i64 x.Pid, .string x.Name, .string x.Mod, .int .i64 x.No, .int .i64 K, .int .i64 N, .string S, .slice z7 n7 o7, .slice z8 n8 o8] (upW (putW x t)) fp ∧ Fresh w7.heap.size w' fp) ∧ Below w7.heap.size w7 w' := ownWorker_any d (putW x t) a7 ax l7 c7 mx cx w7 (HR.out w7 HBL_7.out).2.1 hq (by have h1 := cntL_append d x.Box t; have := HCN.out; show cntL d x.State.L ≤ 2097152 ∧ cntL (d + 1) (x.Box ++ [t]) ≤ 4194304; omega)
        go_wp2_with fail
        rw [← HW7.out]
        refine hC.mono ?_
        clear hC
        rintro e wv ⟨K, N, S, z7, z8, n7, o7, n8, o8, fp, rfl, HO, hbv⟩
        have zr := (hbv.block (B + 1 + 1) (lt_row hZ_7)).trans hZ_7
        have HRF : Hid (wv.heap[B + 1 + 1]? = some (.cells #[.int .i64 0, .string ⟨#[]⟩, .string ⟨#[]⟩, .int .i64 0, .int .i64 0, .int .i64 0, .string ⟨#[]⟩, .slice none 0 0, .slice none 0 0] 33 (0, 0)) ∧ Below w7.heap.size w7 wv) := ⟨zr, hbv⟩
        have e0 : wv.cell? ⟨B + 1 + 1, 0, none⟩ = some (.int .i64 0) := by rw [cell_of_row wv _ 0 _ _ _ zr]; rfl
        have ye0 : wv.frozen? ⟨B + 1 + 1, 0, none⟩ = false := frozen_of_row wv _ 0 _ _ zr
        have e1 : wv.cell? ⟨B + 1 + 1, 1, none⟩ = some (.string ⟨#[]⟩) := by rw [cell_of_row wv _ 1 _ _ _ zr]; rfl
        have ye1 : wv.frozen? ⟨B + 1 + 1, 1, none⟩ = false := frozen_of_row wv _ 1 _ _ zr
        have e2 : wv.cell? ⟨B + 1 + 1, 2, none⟩ = some (.string ⟨#[]⟩) := by rw [cell_of_row wv _ 2 _ _ _ zr]; rfl
        have ye2 : wv.frozen? ⟨B + 1 + 1, 2, none⟩ = false := frozen_of_row wv _ 2 _ _ zr
        have e3 : wv.cell? ⟨B + 1 + 1, 3, none⟩ = some (.int .i64 0) := by rw [cell_of_row wv _ 3 _ _ _ zr]; rfl
        have ye3 : wv.frozen? ⟨B + 1 + 1, 3, none⟩ = false := frozen_of_row wv _ 3 _ _ zr
        have e4 : wv.cell? ⟨B + 1 + 1, 4, none⟩ = some (.int .i64 0) := by rw [cell_of_row wv _ 4 _ _ _ zr]; rfl
        have ye4 : wv.frozen? ⟨B + 1 + 1, 4, none⟩ = false := frozen_of_row wv _ 4 _ _ zr
        have e5 : wv.cell? ⟨B + 1 + 1, 5, none⟩ = some (.int .i64 0) := by rw [cell_of_row wv _ 5 _ _ _ zr]; rfl
        have ye5 : wv.frozen? ⟨B + 1 + 1, 5, none⟩ = false := frozen_of_row wv _ 5 _ _ zr
        have e6 : wv.cell? ⟨B + 1 + 1, 6, none⟩ = some (.string ⟨#[]⟩) := by rw [cell_of_row wv _ 6 _ _ _ zr]; rfl
        have ye6 : wv.frozen? ⟨B + 1 + 1, 6, none⟩ = false := frozen_of_row wv _ 6 _ _ zr
        have e7 : wv.cell? ⟨B + 1 + 1, 7, none⟩ = some (.slice none 0 0) := by rw [cell_of_row wv _ 7 _ _ _ zr]; rfl
        have ye7 : wv.frozen? ⟨B + 1 + 1, 7, none⟩ = false := frozen_of_row wv _ 7 _ _ zr
        have e8 : wv.cell? ⟨B + 1 + 1, 8, none⟩ = some (.slice none 0 0) := by rw [cell_of_row wv _ 8 _ _ _ zr]; rfl
        have ye8 : wv.frozen? ⟨B + 1 + 1, 8, none⟩ = false := frozen_of_row wv _ 8 _ _ zr
        obtain ⟨wz, hwz⟩ : ∃ W, W = (((((((((wv.setCell ⟨B + 1 + 1, 0, none⟩ (.int .i64 x.Pid)).setCell ⟨B + 1 + 1, 1, none⟩ (.string x.Name)).setCell ⟨B + 1 + 1, 2, none⟩ (.string x.Mod)).setCell ⟨B + 1 + 1, 3, none⟩ (.int .i64 x.No)).setCell ⟨B + 1 + 1, 4, none⟩ (.int .i64 K)).setCell ⟨B + 1 + 1, 5, none⟩ (.int .i64 N)).setCell ⟨B + 1 + 1, 6, none⟩ (.string S)).setCell ⟨B + 1 + 1, 7, none⟩ (.slice z7 n7 o7)).setCell ⟨B + 1 + 1, 8, none⟩ (.slice z8 n8 o8)) := ⟨_, rfl⟩
        have nz : wz.heap[B + 1 + 1]? = some (.cells #[.int .i64 x.Pid, .string x.Name, .string x.Mod, .int .i64 x.No, .int .i64 K, .int .i64 N, .string S, .slice z7 n7 o7, .slice z8 n8 o8] 33 (0, 0)) := by
          rw [hwz]
          have zr0 : (wv.setCell ⟨B + 1 + 1, 0, none⟩ (.int .i64 x.Pid)).heap[B + 1 + 1]? = some (.cells #[.int .i64 x.Pid, .string ⟨#[]⟩, .string ⟨#[]⟩, .int .i64 0, .int .i64 0, .int .i64 0, .string ⟨#[]⟩, .slice none 0 0, .slice none 0 0] 33 (0, 0)) := heap_setCell_same _ (B + 1 + 1) 0 _ _ (.int .i64 x.Pid) HRF.out.1
          have zr1 : ((wv.setCell ⟨B + 1 + 1, 0, none⟩ (.int .i64 x.Pid)).setCell ⟨B + 1 + 1, 1, none⟩ (.string x.Name)).heap[B + 1 + 1]? = some (.cells #[.int .i64 x.Pid, .string x.Name, .string ⟨#[]⟩, .int .i64 0, .int .i64 0, .int .i64 0, .string ⟨#[]⟩, .slice none 0 0, .slice none 0 0] 33 (0, 0)) := heap_setCell_same _ (B + 1 + 1) 1 _ _ (.string x.Name) zr0
          have zr2 : (((wv.setCell ⟨B + 1 + 1, 0, none⟩ (.int .i64 x.Pid)).setCell ⟨B + 1 + 1, 1, none⟩ (.string x.Name)).setCell ⟨B + 1 + 1, 2, none⟩ (.string x.Mod)).heap[B + 1 + 1]? = some (.cells #[.int .i64 x.Pid, .string x.Name, .string x.Mod, .int .i64 0, .int .i64 0, .int .i64 0, .string ⟨#[]⟩, .slice none 0 0, .slice none 0 0] 33 (0, 0)) := heap_setCell_same _ (B + 1 + 1) 2 _ _ (.string x.Mod) zr1
          have zr3 : ((((wv.setCell ⟨B + 1 + 1, 0, none⟩ (.int .i64 x.Pid)).setCell ⟨B + 1 + 1, 1, none⟩ (.string x.Name)).setCell ⟨B + 1 + 1, 2, none⟩ (.string x.Mod)).setCell ⟨B + 1 + 1, 3, none⟩ (.int .i64 x.No)).heap[B + 1 + 1]? = some (.cells #[.int .i64 x.Pid, .string x.Name, .string x.Mod, .int .i64 x.No, .int .i64 0, .int .i64 0, .string ⟨#[]⟩, .slice none 0 0, .slice none 0 0] 33 (0, 0)) := heap_setCell_same _ (B + 1 + 1) 3 _ _ (.int .i64 x.No) zr2
          have zr4 : (((((wv.setCell ⟨B + 1 + 1, 0, none⟩ (.int .i64 x.Pid)).setCell ⟨B + 1 + 1, 1, none⟩ (.string x.Name)).setCell ⟨B + 1 + 1, 2, none⟩ (.string x.Mod)).setCell ⟨B + 1 + 1, 3, none⟩ (.int .i64 x.No)).setCell ⟨B + 1 + 1, 4, none⟩ (.int .i64 K)).heap[B + 1 + 1]? = some (.cells #[.int .i64 x.Pid, .string x.Name, .string x.Mod, .int .i64 x.No, .int .i64 K, .int .i64 0, .string ⟨#[]⟩, .slice none 0 0, .slice none 0 0] 33 (0, 0)) := heap_setCell_same _ (B + 1 + 1) 4 _ _ (.int .i64 K) zr3
          have zr5 : ((((((wv.setCell ⟨B + 1 + 1, 0, none⟩ (.int .i64 x.Pid)).setCell ⟨B + 1 + 1, 1, none⟩ (.string x.Name)).setCell ⟨B + 1 + 1, 2, none⟩ (.string x.Mod)).setCell ⟨B + 1 + 1, 3, none⟩ (.int .i64 x.No)).setCell ⟨B + 1 + 1, 4, none⟩ (.int .i64 K)).setCell ⟨B + 1 + 1, 5, none⟩ (.int .i64 N)).heap[B + 1 + 1]? = some (.cells #[.int .i64 x.Pid, .string x.Name, .string x.Mod, .int .i64 x.No, .int .i64 K, .int .i64 N, .string ⟨#[]⟩, .slice none 0 0, .slice none 0 0] 33 (0, 0)) := heap_setCell_same _ (B + 1 + 1) 5 _ _ (.int .i64 N) zr4
          have zr6 : (((((((wv.setCell ⟨B + 1 + 1, 0, none⟩ (.int .i64 x.Pid)).setCell ⟨B + 1 + 1, 1, none⟩ (.string x.Name)).setCell ⟨B + 1 + 1, 2, none⟩ (.string x.Mod)).setCell ⟨B + 1 + 1, 3, none⟩ (.int .i64 x.No)).setCell ⟨B + 1 + 1, 4, none⟩ (.int .i64 K)).setCell ⟨B + 1 + 1, 5, none⟩ (.int .i64 N)).setCell ⟨B + 1 + 1, 6, none⟩ (.string S)).heap[B + 1 + 1]? = some (.cells #[.int .i64 x.Pid, .string x.Name, .string x.Mod, .int .i64 x.No, .int .i64 K, .int .i64 N, .string S, .slice none 0 0, .slice none 0 0] 33 (0, 0)) := heap_setCell_same _ (B + 1 + 1) 6 _ _ (.string S) zr5
          have zr7 : ((((((((wv.setCell ⟨B + 1 + 1, 0, none⟩ (.int .i64 x.Pid)).setCell ⟨B + 1 + 1, 1, none⟩ (.string x.Name)).setCell ⟨B + 1 + 1, 2, none⟩ (.string x.Mod)).setCell ⟨B + 1 + 1, 3, none⟩ (.int .i64 x.No)).setCell ⟨B + 1 + 1, 4, none⟩ (.int .i64 K)).setCell ⟨B + 1 + 1, 5, none⟩ (.int .i64 N)).setCell ⟨B + 1 + 1, 6, none⟩ (.string S)).setCell ⟨B + 1 + 1, 7, none⟩ (.slice z7 n7 o7)).heap[B + 1 + 1]? = some (.cells #[.int .i64 x.Pid, .string x.Name, .string x.Mod, .int .i64 x.No, .int .i64 K, .int .i64 N, .string S, .slice z7 n7 o7, .slice none 0 0] 33 (0, 0)) := heap_setCell_same _ (B + 1 + 1) 7 _ _ (.slice z7 n7 o7) zr6
          have zr8 : (((((((((wv.setCell ⟨B + 1 + 1, 0, none⟩ (.int .i64 x.Pid)).setCell ⟨B + 1 + 1, 1, none⟩ (.string x.Name)).setCell ⟨B + 1 + 1, 2, none⟩ (.string x.Mod)).setCell ⟨B + 1 + 1, 3, none⟩ (.int .i64 x.No)).setCell ⟨B + 1 + 1, 4, none⟩ (.int .i64 K)).setCell ⟨B + 1 + 1, 5, none⟩ (.int .i64 N)).setCell ⟨B + 1 + 1, 6, none⟩ (.string S)).setCell ⟨B + 1 + 1, 7, none⟩ (.slice z7 n7 o7)).setCell ⟨B + 1 + 1, 8, none⟩ (.slice z8 n8 o8)).heap[B + 1 + 1]? = some (.cells #[.int .i64 x.Pid, .string x.Name, .string x.Mod, .int .i64 x.No, .int .i64 K, .int .i64 N, .string S, .slice z7 n7 o7, .slice z8 n8 o8] 33 (0, 0)) := heap_setCell_same _ (B + 1 + 1) 8 _ _ (.slice z8 n8 o8) zr7
          exact zr8
        have hKz : Kept (B + 1 + 1) (B + 1 + 1 + 1) wv wz := by
          rw [hwz]
          repeat (first | with_reducible exact Kept.refl _ _ _ | with_reducible refine Kept.drew ?_ | (with_reducible refine Kept.set ?_ ?_; omega))
        have HE : Hid (PwRes x t w (.returned (.tuple #[(.agg #[.int .i64 x.Pid, .string x.Name, .string x.Mod, .int .i64 x.No, .int .i64 K, .int .i64 N, .string S, .slice z7 n7 o7, .slice z8 n8 o8]), .bool true])) wz ∧ wz.heap[B + 1 + 1]? = some (.cells #[.int .i64 x.Pid, .string x.Name, .string x.Mod, .int .i64 x.No, .int .i64 K, .int .i64 N, .string S, .slice z7 n7 o7, .slice z8 n8 o8] 33 (0, 0))) := by
          refine ⟨⟨(putW x t), true, K, N, S, z7, z8, n7, o7, n8, o8, fp, rfl, ⟨.inl ⟨rfl, HYES.out, rfl⟩, WorkerO.lasts (d + 1) _ _ _ _ _ HO.out.1 fun g hg => hKz.block g (HO.out.2.2 g hg).2 (.inr ?_), HO.out.2.1, fun g hg => ?_⟩, ?_⟩, nz⟩
          · have h1 := (HO.out.2.2 g hg).1
            have h2 := lt_row hZ_7
            have h3 := HSZ_7.out
            omega
          · have h1 := HO.out.2.2 g hg
            have h3 := HSZ_7.out
            have h4 := hKz.size
            have h5 := HB.out
            omega
          · have h1 : Below w.heap.size w wv := HBL_7.out.trans (hbv.mono HBL_7.out.size)
            exact h1.trans (hKz.below (by have := HB.out.1; omega) h1.size)
        have HWZ : Hid (wz = _) := hwz
        clear zr hwz nz hKz HO hbv HRF
        go_wp2_with fail
        rw [← HWZ.out]
        refine bodyPost_ret (res_two Try.f14 _ 4 5 (B + 1 + 1) true wz _ _ _ _ _ _ _ _ _ rfl rfl rfl HE.out.2) rfl HE.out.1
      · have HNO : Hid (¬ (pWorkerOk d x ∧ RightT d t ∧ x.Box.length < 20)) := fun h => by have := HCN.out.2.2.1; omega
        have hC : Calls Try.prog 35 #[(.agg #[.int .i64 x.Pid, .string x.Name, .string x.Mod, .int .i64 x.No, .int .i64 x.State.K, .int .i64 x.State.N, .string x.State.S, .slice a7 l7 c7, .slice ax mx cx])] w7 fun e w' => ∃ (K N : Int) (S : ByteArray) (z7 z8 : Option Addr) (n7 o7 n8 o8 : Nat) (fp : List Nat), e = .returned (.agg #[.int .i64 x.Pid, .string x.Name, .string x.Mod, .int .i64 x.No, .int .i64 K, .int .i64 N, .string S, .slice z7 n7 o7, .slice z8 n8 o8]) ∧ Hid (WorkerO (d + 1) w' [.int .i64 x.Pid, .string x.Name, .string x.Mod, .int .i64 x.No, .int .i64 K, .int .i64 N, .string S, .slice z7 n7 o7, .slice z8 n8 o8] (upW x) fp ∧ Fresh w7.heap.size w' fp) ∧ Below w7.heap.size w7 w' := ownWorker_any d x a7 ax l7 c7 mx cx w7 (HR.out w7 HBL_7.out).2.1 hq (by have := HCN.out.1; omega)
        go_wp2_with fail
        rw [← HW7.out]
        refine hC.mono ?_
        clear hC
        rintro e wv ⟨K, N, S, z7, z8, n7, o7, n8, o8, fp, rfl, HO, hbv⟩
        have zr := (hbv.block (B + 1 + 1) (lt_row hZ_7)).trans hZ_7
        have HRF : Hid (wv.heap[B + 1 + 1]? = some (.cells #[.int .i64 0, .string ⟨#[]⟩, .string ⟨#[]⟩, .int .i64 0, .int .i64 0, .int .i64 0, .string ⟨#[]⟩, .slice none 0 0, .slice none 0 0] 33 (0, 0)) ∧ Below w7.heap.size w7 wv) := ⟨zr, hbv⟩
        have e0 : wv.cell? ⟨B + 1 + 1, 0, none⟩ = some (.int .i64 0) := by rw [cell_of_row wv _ 0 _ _ _ zr]; rfl
        have ye0 : wv.frozen? ⟨B + 1 + 1, 0, none⟩ = false := frozen_of_row wv _ 0 _ _ zr
        have e1 : wv.cell? ⟨B + 1 + 1, 1, none⟩ = some (.string ⟨#[]⟩) := by rw [cell_of_row wv _ 1 _ _ _ zr]; rfl
        have ye1 : wv.frozen? ⟨B + 1 + 1, 1, none⟩ = false := frozen_of_row wv _ 1 _ _ zr
        have e2 : wv.cell? ⟨B + 1 + 1, 2, none⟩ = some (.string ⟨#[]⟩) := by rw [cell_of_row wv _ 2 _ _ _ zr]; rfl
        have ye2 : wv.frozen? ⟨B + 1 + 1, 2, none⟩ = false := frozen_of_row wv _ 2 _ _ zr
        have e3 : wv.cell? ⟨B + 1 + 1, 3, none⟩ = some (.int .i64 0) := by rw [cell_of_row wv _ 3 _ _ _ zr]; rfl
        have ye3 : wv.frozen? ⟨B + 1 + 1, 3, none⟩ = false := frozen_of_row wv _ 3 _ _ zr
        have e4 : wv.cell? ⟨B + 1 + 1, 4, none⟩ = some (.int .i64 0) := by rw [cell_of_row wv _ 4 _ _ _ zr]; rfl
        have ye4 : wv.frozen? ⟨B + 1 + 1, 4, none⟩ = false := frozen_of_row wv _ 4 _ _ zr
        have e5 : wv.cell? ⟨B + 1 + 1, 5, none⟩ = some (.int .i64 0) := by rw [cell_of_row wv _ 5 _ _ _ zr]; rfl
        have ye5 : wv.frozen? ⟨B + 1 + 1, 5, none⟩ = false := frozen_of_row wv _ 5 _ _ zr
        have e6 : wv.cell? ⟨B + 1 + 1, 6, none⟩ = some (.string ⟨#[]⟩) := by rw [cell_of_row wv _ 6 _ _ _ zr]; rfl
        have ye6 : wv.frozen? ⟨B + 1 + 1, 6, none⟩ = false := frozen_of_row wv _ 6 _ _ zr
        have e7 : wv.cell? ⟨B + 1 + 1, 7, none⟩ = some (.slice none 0 0) := by rw [cell_of_row wv _ 7 _ _ _ zr]; rfl
        have ye7 : wv.frozen? ⟨B + 1 + 1, 7, none⟩ = false := frozen_of_row wv _ 7 _ _ zr
        have e8 : wv.cell? ⟨B + 1 + 1, 8, none⟩ = some (.slice none 0 0) := by rw [cell_of_row wv _ 8 _ _ _ zr]; rfl
        have ye8 : wv.frozen? ⟨B + 1 + 1, 8, none⟩ = false := frozen_of_row wv _ 8 _ _ zr
        obtain ⟨wz, hwz⟩ : ∃ W, W = (((((((((wv.setCell ⟨B + 1 + 1, 0, none⟩ (.int .i64 x.Pid)).setCell ⟨B + 1 + 1, 1, none⟩ (.string x.Name)).setCell ⟨B + 1 + 1, 2, none⟩ (.string x.Mod)).setCell ⟨B + 1 + 1, 3, none⟩ (.int .i64 x.No)).setCell ⟨B + 1 + 1, 4, none⟩ (.int .i64 K)).setCell ⟨B + 1 + 1, 5, none⟩ (.int .i64 N)).setCell ⟨B + 1 + 1, 6, none⟩ (.string S)).setCell ⟨B + 1 + 1, 7, none⟩ (.slice z7 n7 o7)).setCell ⟨B + 1 + 1, 8, none⟩ (.slice z8 n8 o8)) := ⟨_, rfl⟩
        have nz : wz.heap[B + 1 + 1]? = some (.cells #[.int .i64 x.Pid, .string x.Name, .string x.Mod, .int .i64 x.No, .int .i64 K, .int .i64 N, .string S, .slice z7 n7 o7, .slice z8 n8 o8] 33 (0, 0)) := by
          rw [hwz]
          have zr0 : (wv.setCell ⟨B + 1 + 1, 0, none⟩ (.int .i64 x.Pid)).heap[B + 1 + 1]? = some (.cells #[.int .i64 x.Pid, .string ⟨#[]⟩, .string ⟨#[]⟩, .int .i64 0, .int .i64 0, .int .i64 0, .string ⟨#[]⟩, .slice none 0 0, .slice none 0 0] 33 (0, 0)) := heap_setCell_same _ (B + 1 + 1) 0 _ _ (.int .i64 x.Pid) HRF.out.1
          have zr1 : ((wv.setCell ⟨B + 1 + 1, 0, none⟩ (.int .i64 x.Pid)).setCell ⟨B + 1 + 1, 1, none⟩ (.string x.Name)).heap[B + 1 + 1]? = some (.cells #[.int .i64 x.Pid, .string x.Name, .string ⟨#[]⟩, .int .i64 0, .int .i64 0, .int .i64 0, .string ⟨#[]⟩, .slice none 0 0, .slice none 0 0] 33 (0, 0)) := heap_setCell_same _ (B + 1 + 1) 1 _ _ (.string x.Name) zr0
          have zr2 : (((wv.setCell ⟨B + 1 + 1, 0, none⟩ (.int .i64 x.Pid)).setCell ⟨B + 1 + 1, 1, none⟩ (.string x.Name)).setCell ⟨B + 1 + 1, 2, none⟩ (.string x.Mod)).heap[B + 1 + 1]? = some (.cells #[.int .i64 x.Pid, .string x.Name, .string x.Mod, .int .i64 0, .int .i64 0, .int .i64 0, .string ⟨#[]⟩, .slice none 0 0, .slice none 0 0] 33 (0, 0)) := heap_setCell_same _ (B + 1 + 1) 2 _ _ (.string x.Mod) zr1
          have zr3 : ((((wv.setCell ⟨B + 1 + 1, 0, none⟩ (.int .i64 x.Pid)).setCell ⟨B + 1 + 1, 1, none⟩ (.string x.Name)).setCell ⟨B + 1 + 1, 2, none⟩ (.string x.Mod)).setCell ⟨B + 1 + 1, 3, none⟩ (.int .i64 x.No)).heap[B + 1 + 1]? = some (.cells #[.int .i64 x.Pid, .string x.Name, .string x.Mod, .int .i64 x.No, .int .i64 0, .int .i64 0, .string ⟨#[]⟩, .slice none 0 0, .slice none 0 0] 33 (0, 0)) := heap_setCell_same _ (B + 1 + 1) 3 _ _ (.int .i64 x.No) zr2
          have zr4 : (((((wv.setCell ⟨B + 1 + 1, 0, none⟩ (.int .i64 x.Pid)).setCell ⟨B + 1 + 1, 1, none⟩ (.string x.Name)).setCell ⟨B + 1 + 1, 2, none⟩ (.string x.Mod)).setCell ⟨B + 1 + 1, 3, none⟩ (.int .i64 x.No)).setCell ⟨B + 1 + 1, 4, none⟩ (.int .i64 K)).heap[B + 1 + 1]? = some (.cells #[.int .i64 x.Pid, .string x.Name, .string x.Mod, .int .i64 x.No, .int .i64 K, .int .i64 0, .string ⟨#[]⟩, .slice none 0 0, .slice none 0 0] 33 (0, 0)) := heap_setCell_same _ (B + 1 + 1) 4 _ _ (.int .i64 K) zr3
          have zr5 : ((((((wv.setCell ⟨B + 1 + 1, 0, none⟩ (.int .i64 x.Pid)).setCell ⟨B + 1 + 1, 1, none⟩ (.string x.Name)).setCell ⟨B + 1 + 1, 2, none⟩ (.string x.Mod)).setCell ⟨B + 1 + 1, 3, none⟩ (.int .i64 x.No)).setCell ⟨B + 1 + 1, 4, none⟩ (.int .i64 K)).setCell ⟨B + 1 + 1, 5, none⟩ (.int .i64 N)).heap[B + 1 + 1]? = some (.cells #[.int .i64 x.Pid, .string x.Name, .string x.Mod, .int .i64 x.No, .int .i64 K, .int .i64 N, .string ⟨#[]⟩, .slice none 0 0, .slice none 0 0] 33 (0, 0)) := heap_setCell_same _ (B + 1 + 1) 5 _ _ (.int .i64 N) zr4
          have zr6 : (((((((wv.setCell ⟨B + 1 + 1, 0, none⟩ (.int .i64 x.Pid)).setCell ⟨B + 1 + 1, 1, none⟩ (.string x.Name)).setCell ⟨B + 1 + 1, 2, none⟩ (.string x.Mod)).setCell ⟨B + 1 + 1, 3, none⟩ (.int .i64 x.No)).setCell ⟨B + 1 + 1, 4, none⟩ (.int .i64 K)).setCell ⟨B + 1 + 1, 5, none⟩ (.int .i64 N)).setCell ⟨B + 1 + 1, 6, none⟩ (.string S)).heap[B + 1 + 1]? = some (.cells #[.int .i64 x.Pid, .string x.Name, .string x.Mod, .int .i64 x.No, .int .i64 K, .int .i64 N, .string S, .slice none 0 0, .slice none 0 0] 33 (0, 0)) := heap_setCell_same _ (B + 1 + 1) 6 _ _ (.string S) zr5
          have zr7 : ((((((((wv.setCell ⟨B + 1 + 1, 0, none⟩ (.int .i64 x.Pid)).setCell ⟨B + 1 + 1, 1, none⟩ (.string x.Name)).setCell ⟨B + 1 + 1, 2, none⟩ (.string x.Mod)).setCell ⟨B + 1 + 1, 3, none⟩ (.int .i64 x.No)).setCell ⟨B + 1 + 1, 4, none⟩ (.int .i64 K)).setCell ⟨B + 1 + 1, 5, none⟩ (.int .i64 N)).setCell ⟨B + 1 + 1, 6, none⟩ (.string S)).setCell ⟨B + 1 + 1, 7, none⟩ (.slice z7 n7 o7)).heap[B + 1 + 1]? = some (.cells #[.int .i64 x.Pid, .string x.Name, .string x.Mod, .int .i64 x.No, .int .i64 K, .int .i64 N, .string S, .slice z7 n7 o7, .slice none 0 0] 33 (0, 0)) := heap_setCell_same _ (B + 1 + 1) 7 _ _ (.slice z7 n7 o7) zr6
          have zr8 : (((((((((wv.setCell ⟨B + 1 + 1, 0, none⟩ (.int .i64 x.Pid)).setCell ⟨B + 1 + 1, 1, none⟩ (.string x.Name)).setCell ⟨B + 1 + 1, 2, none⟩ (.string x.Mod)).setCell ⟨B + 1 + 1, 3, none⟩ (.int .i64 x.No)).setCell ⟨B + 1 + 1, 4, none⟩ (.int .i64 K)).setCell ⟨B + 1 + 1, 5, none⟩ (.int .i64 N)).setCell ⟨B + 1 + 1, 6, none⟩ (.string S)).setCell ⟨B + 1 + 1, 7, none⟩ (.slice z7 n7 o7)).setCell ⟨B + 1 + 1, 8, none⟩ (.slice z8 n8 o8)).heap[B + 1 + 1]? = some (.cells #[.int .i64 x.Pid, .string x.Name, .string x.Mod, .int .i64 x.No, .int .i64 K, .int .i64 N, .string S, .slice z7 n7 o7, .slice z8 n8 o8] 33 (0, 0)) := heap_setCell_same _ (B + 1 + 1) 8 _ _ (.slice z8 n8 o8) zr7
          exact zr8
        have hKz : Kept (B + 1 + 1) (B + 1 + 1 + 1) wv wz := by
          rw [hwz]
          repeat (first | with_reducible exact Kept.refl _ _ _ | with_reducible refine Kept.drew ?_ | (with_reducible refine Kept.set ?_ ?_; omega))
        have HE : Hid (PwRes x t w (.returned (.tuple #[(.agg #[.int .i64 x.Pid, .string x.Name, .string x.Mod, .int .i64 x.No, .int .i64 K, .int .i64 N, .string S, .slice z7 n7 o7, .slice z8 n8 o8]), .bool false])) wz ∧ wz.heap[B + 1 + 1]? = some (.cells #[.int .i64 x.Pid, .string x.Name, .string x.Mod, .int .i64 x.No, .int .i64 K, .int .i64 N, .string S, .slice z7 n7 o7, .slice z8 n8 o8] 33 (0, 0))) := by
          refine ⟨⟨x, false, K, N, S, z7, z8, n7, o7, n8, o8, fp, rfl, ⟨.inr ⟨rfl, HNO.out, rfl⟩, WorkerO.lasts (d + 1) _ _ _ _ _ HO.out.1 fun g hg => hKz.block g (HO.out.2.2 g hg).2 (.inr ?_), HO.out.2.1, fun g hg => ?_⟩, ?_⟩, nz⟩
          · have h1 := (HO.out.2.2 g hg).1
            have h2 := lt_row hZ_7
            have h3 := HSZ_7.out
            omega
          · have h1 := HO.out.2.2 g hg
            have h3 := HSZ_7.out
            have h4 := hKz.size
            have h5 := HB.out
            omega
          · have h1 : Below w.heap.size w wv := HBL_7.out.trans (hbv.mono HBL_7.out.size)
            exact h1.trans (hKz.below (by have := HB.out.1; omega) h1.size)
        have HWZ : Hid (wz = _) := hwz
        clear zr hwz nz hKz HO hbv HRF
        go_wp2_with fail
        rw [← HWZ.out]
        refine bodyPost_ret (res_two Try.f14 _ 4 5 (B + 1 + 1) false wz _ _ _ _ _ _ _ _ _ rfl rfl rfl HE.out.2) rfl HE.out.1

end Go.Proofs.Ytfachfimdenapaa
