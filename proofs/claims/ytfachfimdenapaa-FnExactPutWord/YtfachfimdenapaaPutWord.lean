/- FnExactPutWord: at every worker and every term (that can be read as data, within the law's own bound) the program's PutWord answers as the model's, every field; it leaves its arguments as they were, and its answer owns its memory, behind another call too: no other condition. (The frame round the walk is the guide's own way.) -/
import Derived.Test.YtfachfimdenapaaPw8M
import Derived.Test.YtfachfimdenapaaTReadM
import Derived.WalkKit
import Derived.Deep.DeepCutAuto
import Derived.Deep.RegionHeld3
import Derived.ProofKit
import Derived.OpenShut
import Derived.ShutString
import Derived.ChangeOld
import Derived.Below
namespace Go.Proofs.Ytfachfimdenapaa.fnExactPutWord
open Go.ChangeShapes Go.WideShapes Go.ChangeAt Go.RowKit
open Go.ChangeMaps (open_string shut_string)
set_option linter.unusedVariables false

theorem own : ownKnob Try.prog.godebug = none := by kernel_rfl
theorem laidOut : laidOutB Try.prog = true := by kernel_rfl

set_option maxRecDepth 100000 in
set_option maxHeartbeats 8000000 in
theorem walk (d : Nat) (w : World) (vs0 : List Value) (x0 : DWorker d) (r0 : WorkerR d w vs0 x0) (f0 : WfWorker d x0) (k1 n1 : Int) (s1 : ByteArray) (l1 : Value) (t1 : List (Tm d)) (wk1 : I64 k1) (wn1 : I64 n1) (ws1 : s1.size ≤ maxLen) (r1 : RdL d w l1 t1) (f1 : WfL d t1) :
    Calls Try.prog 4 #[.agg vs0.toArray, .agg #[.int .i64 k1, .int .i64 n1, .string s1, l1]] w fun e w' => e = .returned (.bool true) ∧ Below w.heap.size w w' := by
  obtain ⟨pa7, pl7, pc7, pa8, pl8, pc8, rfl⟩ := r0.vals
  obtain ⟨ta, tac, rfl⟩ := r1.len
  obtain ⟨tn, htn⟩ : ∃ n, t1.length = n := ⟨_, rfl⟩
  rw [htn] at r1 ⊢
  have HR : Hid (∀ V : World, Below w.heap.size w V → WorkerR d V [.int .i64 x0.Pid, .string x0.Name, .string x0.Mod, .int .i64 x0.No, .int .i64 x0.State.K, .int .i64 x0.State.N, .string x0.State.S, .slice pa7 pl7 pc7, .slice pa8 pl8 pc8] x0 ∧ RdL d V (.slice ta tn tac) t1) := fun V hV => ⟨WorkerR.lasts d _ _ _ _ r0 hV, r1.later hV⟩
  have HF : Hid (WfWorker d x0 ∧ WfTm d (mkT k1 n1 s1 t1) ∧ t1.length = tn) := ⟨f0, ⟨wk1, wn1, ws1, f1⟩, htn⟩
  obtain ⟨W0, hW0⟩ : ∃ W, W = w.alloc (.cells #[.int .i64 x0.Pid, .string x0.Name, .string x0.Mod, .int .i64 x0.No, .int .i64 x0.State.K, .int .i64 x0.State.N, .string x0.State.S, .slice pa7 pl7 pc7, .slice pa8 pl8 pc8] 26) := ⟨_, rfl⟩
  obtain ⟨W1, hW1⟩ : ∃ W, W = W0.alloc (.cells #[.int .i64 k1, .int .i64 n1, .string s1, .slice ta tn tac] 24) := ⟨_, rfl⟩
  have s0 : W0.heap.size = w.heap.size + 1 := by rw [hW0]; simp
  have b0 : Below w.heap.size w W0 := by rw [hW0]; exact (Below.refl _ _).alloc (Nat.le_refl _) _
  have b1 : Below W0.heap.size W0 W1 := by rw [hW1]; exact (Below.refl _ _).alloc (Nat.le_refl _) _
  have bel1 : Below w.heap.size w W1 := b0.trans (b1.mono b0.size)
  have nP : W1.heap[w.heap.size]? = some (.cells #[.int .i64 x0.Pid, .string x0.Name, .string x0.Mod, .int .i64 x0.No, .int .i64 x0.State.K, .int .i64 x0.State.N, .string x0.State.S, .slice pa7 pl7 pc7, .slice pa8 pl8 pc8] 26 (0, 0)) := by
    refine (b1.block _ (by omega)).trans ?_
    rw [hW0]; exact heap_alloc_new w _
  have nT : W1.heap[w.heap.size + 1]? = some (.cells #[.int .i64 k1, .int .i64 n1, .string s1, .slice ta tn tac] 24 (0, 0)) := by rw [hW1, ← s0]; exact heap_alloc_new W0 _
  have HPT : Hid (∀ V : World, Below W1.heap.size W1 V → V.heap[w.heap.size]? = some (.cells #[.int .i64 x0.Pid, .string x0.Name, .string x0.Mod, .int .i64 x0.No, .int .i64 x0.State.K, .int .i64 x0.State.N, .string x0.State.S, .slice pa7 pl7 pc7, .slice pa8 pl8 pc8] 26 (0, 0)) ∧ V.heap[w.heap.size + 1]? = some (.cells #[.int .i64 k1, .int .i64 n1, .string s1, .slice ta tn tac] 24 (0, 0)) ∧ Below w.heap.size w V ∧ w.heap.size + 1 < V.heap.size) := fun V hV => ⟨(hV.block _ (lt_row nP)).trans nP, (hV.block _ (lt_row nT)).trans nT, bel1.trans (hV.mono bel1.size), Nat.lt_of_lt_of_le (lt_row nT) hV.size⟩
  have hC := szWorker_any d [.int .i64 x0.Pid, .string x0.Name, .string x0.Mod, .int .i64 x0.No, .int .i64 x0.State.K, .int .i64 x0.State.N, .string x0.State.S, .slice pa7 pl7 pc7, .slice pa8 pl8 pc8] x0 1048576 W1 (HR.out W1 bel1).1 HF.out.1 (by omega) (by omega)
  rw [hW1, hW0] at hC
  have HW1 : Hid (W1 = _) := hW1
  rw [hW0] at HW1
  have HBL1 : Hid (Below w.heap.size w W1) := bel1
  clear r0 f0 r1 f1 hW0 hW1 s0 b0 b1 nP nT bel1 htn
  go_enter Try.func4, Try.ntmps4
  go_wp2_with fail
  refine hC.mono ?_
  clear hC
  rintro e wa ⟨rfl, bela⟩
  rw [← HW1.out] at bela
  have HBA : Hid (Below W1.heap.size W1 wa) := bela
  clear bela HW1
  by_cases hz : szWorkerD d x0 ≤ 1048576
  case neg =>
    have hl : lft 1048576 (szWorkerD d x0) = -1 := by unfold lft; rw [if_neg (by omega)]
    rw [hl]
    have HE : Hid (Below w.heap.size w wa) := (HPT.out wa HBA.out).2.2.1
    clear hz hl
    go_wp2_with fail
    go_ret
    exact ⟨rfl, HE.out⟩
  obtain ⟨x, hx, hxp, hxm⟩ : ∃ x : Int, lft 1048576 (szWorkerD d x0) = x ∧ 0 ≤ x ∧ x ≤ 1048576 := ⟨_, rfl, by unfold lft; rw [if_pos (by omega)]; omega, by unfold lft; rw [if_pos (by omega)]; omega⟩
  rw [hx]
  have HZ : Hid (szWorkerD d x0 ≤ 1048576) := hz
  clear hz hx
  have hA := HPT.out wa HBA.out
  have hC := szTerm_of d (szTermS_any d) k1 n1 s1 (.slice ta tn tac) t1 x wa (HR.out wa hA.2.2.1).2 HF.out.2.1.2.2.2 ws1 (by omega) (by omega)
  have c0 : wa.cell? ⟨w.heap.size + 1, 0, none⟩ = some (.int .i64 k1) := by rw [cell_of_row wa _ 0 _ _ _ hA.2.1]; rfl
  have c1 : wa.cell? ⟨w.heap.size + 1, 1, none⟩ = some (.int .i64 n1) := by rw [cell_of_row wa _ 1 _ _ _ hA.2.1]; rfl
  have c2 : wa.cell? ⟨w.heap.size + 1, 2, none⟩ = some (.string s1) := by rw [cell_of_row wa _ 2 _ _ _ hA.2.1]; rfl
  have c3 : wa.cell? ⟨w.heap.size + 1, 3, none⟩ = some (.slice ta tn tac) := by rw [cell_of_row wa _ 3 _ _ _ hA.2.1]; rfl
  clear hA
  go_wp2_with fail
  refine hC.mono ?_
  clear hC c0 c1 c2 c3
  rintro e wb ⟨rfl, belb⟩
  have HBB : Hid (Below W1.heap.size W1 wb) := HBA.out.trans (belb.mono HBA.out.size)
  clear belb HBA
  by_cases hz : ((s1.size + szL d t1 : Nat) : Int) ≤ x
  case neg =>
    have hl : lft x (s1.size + szL d t1) = -1 := by unfold lft; rw [if_neg (by omega)]
    rw [hl]
    have HE : Hid (Below w.heap.size w wb) := (HPT.out wb HBB.out).2.2.1
    clear hz hl
    go_wp2_with fail
    go_ret
    exact ⟨rfl, HE.out⟩
  obtain ⟨y0, hy, hyp⟩ : ∃ y : Int, lft x (s1.size + szL d t1) = y ∧ 0 ≤ y := ⟨_, rfl, by unfold lft; rw [if_pos (by omega)]; omega⟩
  rw [hy]
  have HY : Hid (szL d t1 ≤ 1048576) := by show _ ≤ _; omega
  have HCT : Hid (cntL d t1 ≤ 1048576) := Nat.le_trans (cntL_szL _ _) HY.out
  have HFW : Hid (FewL d t1) := few_sz _ _ HY.out
  clear hz hy
  have HTX : Hid (∀ V : World, Below w.heap.size w V → Calls Try.prog 8 #[.agg #[.int .i64 x0.Pid, .string x0.Name, .string x0.Mod, .int .i64 x0.No, .int .i64 x0.State.K, .int .i64 x0.State.N, .string x0.State.S, .slice pa7 pl7 pc7, .slice pa8 pl8 pc8]] V fun e w' => ∃ (sa7 : Option Addr) (sl7 sc7 : Nat) (sa8 : Option Addr) (sl8 sc8 : Nat) (fp : List Nat), e = .returned (.agg #[.int .i64 x0.Pid, .string x0.Name, .string x0.Mod, .int .i64 x0.No, .int .i64 x0.State.K, .int .i64 x0.State.N, .string x0.State.S, .slice sa7 sl7 sc7, .slice sa8 sl8 sc8]) ∧ Hid (WorkerO d w' [.int .i64 x0.Pid, .string x0.Name, .string x0.Mod, .int .i64 x0.No, .int .i64 x0.State.K, .int .i64 x0.State.N, .string x0.State.S, .slice sa7 sl7 sc7, .slice sa8 sl8 sc8] x0 fp ∧ Fresh V.heap.size w' fp) ∧ Below V.heap.size V w') := fun V hV => by
    refine (toWorker_any d [.int .i64 x0.Pid, .string x0.Name, .string x0.Mod, .int .i64 x0.No, .int .i64 x0.State.K, .int .i64 x0.State.N, .string x0.State.S, .slice pa7 pl7 pc7, .slice pa8 pl8 pc8] x0 V (HR.out V hV).1 HF.out.1 HZ.out).mono ?_
    rintro e w' ⟨vs, fp, rfl, ho, hf, hb⟩
    obtain ⟨sa7, sl7, sc7, sa8, sl8, sc8, rfl⟩ := (WorkerO.reads d _ _ _ _ ho).vals
    exact ⟨sa7, sl7, sc7, sa8, sl8, sc8, fp, rfl, ⟨ho, hf⟩, hb⟩
  have HTT : Hid (∀ V : World, Below w.heap.size w V → Calls Try.prog 13 #[.agg #[.int .i64 k1, .int .i64 n1, .string s1, .slice ta tn tac]] V fun e w' => ∃ (ua : Option Addr) (uac : Nat) (fp : List Nat), e = .returned (.agg #[.int .i64 k1, .int .i64 n1, .string s1, .slice ua tn uac]) ∧ Hid (OwnL d w' (.slice ua tn uac) t1 fp ∧ Fresh V.heap.size w' fp) ∧ Below V.heap.size V w') := fun V hV => by
    refine (toTerm_of d (toTermS_any d) k1 n1 s1 _ t1 V (HR.out V hV).2 HF.out.2.1.2.2.2 HY.out).mono ?_
    rintro e w' ⟨a, l, c, fp, rfl, ho, hf, hb⟩
    obtain ⟨a', c', e1⟩ := ho.rd.len
    have e2 : l = tn := by rw [← HF.out.2.2]; simpa using (Value.slice.inj e1).2.1
    subst e2
    exact ⟨a, c, fp, rfl, ⟨ho, hf⟩, hb⟩
  have HBW : Hid (Below w.heap.size w wb) := (HPT.out wb HBB.out).2.2.1
  have HSP : Hid (∀ (V : World) (sa7 : Option Addr) (sl7 sc7 : Nat) (sa8 : Option Addr) (sl8 sc8 : Nat) (ua : Option Addr) (uac : Nat), WorkerR d V [.int .i64 x0.Pid, .string x0.Name, .string x0.Mod, .int .i64 x0.No, .int .i64 x0.State.K, .int .i64 x0.State.N, .string x0.State.S, .slice sa7 sl7 sc7, .slice sa8 sl8 sc8] x0 → RdL d V (.slice ua tn uac) t1 → Calls Try.prog 12 #[.agg #[.int .i64 x0.Pid, .string x0.Name, .string x0.Mod, .int .i64 x0.No, .int .i64 x0.State.K, .int .i64 x0.State.N, .string x0.State.S, .slice sa7 sl7 sc7, .slice sa8 sl8 sc8], .agg #[.int .i64 k1, .int .i64 n1, .string s1, .slice ua tn uac]] V fun e w' => MwRes x0 (mkT k1 n1 s1 t1) V e w') := fun V sa7 sl7 sc7 sa8 sl8 sc8 ua uac h1 h2 => specPutWord_any d x0 (mkT k1 n1 s1 t1) sa7 sa8 ua sl7 sc7 sl8 sc8 tn uac V h1 h2 HF.out.1 HZ.out HF.out.2.1 (wk_few HZ.out).1 (wk_few HZ.out).2 HFW.out
  have HXY : Hid (∀ V : World, Below wb.heap.size wb V → Below w.heap.size w V) := fun V hV => HBW.out.trans (hV.mono HBW.out.size)
  have HSK : Hid (∀ V : World, Below wb.heap.size wb V → V.cell? ⟨w.heap.size, 0, none⟩ = some (.int .i64 x0.Pid) ∧ V.cell? ⟨w.heap.size, 1, none⟩ = some (.string x0.Name) ∧ V.cell? ⟨w.heap.size, 2, none⟩ = some (.string x0.Mod) ∧ V.cell? ⟨w.heap.size, 3, none⟩ = some (.int .i64 x0.No) ∧ V.cell? ⟨w.heap.size, 4, none⟩ = some (.int .i64 x0.State.K) ∧ V.cell? ⟨w.heap.size, 5, none⟩ = some (.int .i64 x0.State.N) ∧ V.cell? ⟨w.heap.size, 6, none⟩ = some (.string x0.State.S) ∧ V.cell? ⟨w.heap.size, 7, none⟩ = some (.slice pa7 pl7 pc7) ∧ V.cell? ⟨w.heap.size, 8, none⟩ = some (.slice pa8 pl8 pc8) ∧ V.cell? ⟨w.heap.size + 1, 0, none⟩ = some (.int .i64 k1) ∧ V.cell? ⟨w.heap.size + 1, 1, none⟩ = some (.int .i64 n1) ∧ V.cell? ⟨w.heap.size + 1, 2, none⟩ = some (.string s1) ∧ V.cell? ⟨w.heap.size + 1, 3, none⟩ = some (.slice ta tn tac)) := fun V hV => by
    obtain ⟨hP, hT, _⟩ := HPT.out V (HBB.out.trans (hV.mono HBB.out.size))
    have hc := fun k => cell_of_row V w.heap.size k _ _ _ hP
    have hd := fun k => cell_of_row V (w.heap.size + 1) k _ _ _ hT
    exact ⟨by rw [hc]; rfl, by rw [hc]; rfl, by rw [hc]; rfl, by rw [hc]; rfl, by rw [hc]; rfl, by rw [hc]; rfl, by rw [hc]; rfl, by rw [hc]; rfl, by rw [hc]; rfl, by rw [hd]; rfl, by rw [hd]; rfl, by rw [hd]; rfl, by rw [hd]; rfl⟩
  have hY : Below wb.heap.size wb wb.drew := (Below.refl _ _).drew
  go_wp2_with fail
  go_cut [6, 7] (fun v6 v7 wx => ∃ (b : Nat) (y : DWorker d) (ok : Bool) (wK wN : Int) (wS : ByteArray) (wa7 wa8 : Option Addr) (wl7 wc7 wl8 wc8 : Nat), v6 = .pointer (some ⟨b, 0, none⟩) ∧ v7 = .bool ok ∧ Hid (PwT x0 (mkT k1 n1 s1 t1) y ok ∧ WorkerR d wx [.int .i64 y.Pid, .string y.Name, .string y.Mod, .int .i64 y.No, .int .i64 wK, .int .i64 wN, .string wS, .slice wa7 wl7 wc7, .slice wa8 wl8 wc8] y ∧ wx.heap[b]? = some (.cells #[.int .i64 y.Pid, .string y.Name, .string y.Mod, .int .i64 y.No, .int .i64 wK, .int .i64 wN, .string wS, .slice wa7 wl7 wc7, .slice wa8 wl8 wc8] 33 (0, 0)) ∧ Below wb.heap.size wb wx))
  case first =>
    have hx := HSK.out _ hY
    clear hx
    go_region_held3 (fun V => V.cell? ⟨w.heap.size, 0, none⟩ = some (.int .i64 x0.Pid) ∧ V.cell? ⟨w.heap.size, 1, none⟩ = some (.string x0.Name) ∧ V.cell? ⟨w.heap.size, 2, none⟩ = some (.string x0.Mod) ∧ V.cell? ⟨w.heap.size, 3, none⟩ = some (.int .i64 x0.No) ∧ V.cell? ⟨w.heap.size, 4, none⟩ = some (.int .i64 x0.State.K) ∧ V.cell? ⟨w.heap.size, 5, none⟩ = some (.int .i64 x0.State.N) ∧ V.cell? ⟨w.heap.size, 6, none⟩ = some (.string x0.State.S) ∧ V.cell? ⟨w.heap.size, 7, none⟩ = some (.slice pa7 pl7 pc7) ∧ V.cell? ⟨w.heap.size, 8, none⟩ = some (.slice pa8 pl8 pc8) ∧ V.cell? ⟨w.heap.size + 1, 0, none⟩ = some (.int .i64 k1) ∧ V.cell? ⟨w.heap.size + 1, 1, none⟩ = some (.int .i64 n1) ∧ V.cell? ⟨w.heap.size + 1, 2, none⟩ = some (.string s1) ∧ V.cell? ⟨w.heap.size + 1, 3, none⟩ = some (.slice ta tn tac)) (first | (with_reducible exact HSK.out _ hY) | (with_reducible exact HSK.out _ (hY.alloc hY.size _)) | (with_reducible exact HSK.out _ (hY.alloc hY.size _).drew) | (with_reducible exact HSK.out _ ((Below.refl wb.heap.size wb).alloc (Nat.le_refl _) _).drew) | (with_reducible exact HSK.out _ ((Below.refl wb.heap.size wb).alloc (Nat.le_refl _) _)) | (with_reducible exact HSK.out _ (below9 hY (Nat.le_refl _) _ _ _ _ _ _ _ _ _)) | (with_reducible exact HSK.out _ (below9 hY hn0 _ _ _ _ _ _ _ _ _)) | (with_reducible exact HSK.out _ (below9 hY hn1 _ _ _ _ _ _ _ _ _))) (first
      | (go_at_call 8; (with_reducible refine (HTX.out _ (HXY.out _ (by first | (with_reducible exact hY) | (with_reducible exact (hY.alloc hY.size _)) | (with_reducible exact (hY.alloc hY.size _).drew) | (with_reducible exact ((Below.refl wb.heap.size wb).alloc (Nat.le_refl _) _).drew) | (with_reducible exact ((Below.refl wb.heap.size wb).alloc (Nat.le_refl _) _))))).mono ?_); rintro e V0 ⟨sa7, sl7, sc7, sa8, sl8, sc8, fp1, rfl, HO1, hB0⟩; have HE0 : Hid (∀ V : World, Below V0.heap.size V0 V → WorkerR d V [.int .i64 x0.Pid, .string x0.Name, .string x0.Mod, .int .i64 x0.No, .int .i64 x0.State.K, .int .i64 x0.State.N, .string x0.State.S, .slice sa7 sl7 sc7, .slice sa8 sl8 sc8] x0) := fun V hV => WorkerR.lasts d _ _ _ _ (WorkerO.reads d _ _ _ _ HO1.out.1) hV; (try (have hbx := (hB0.block _ (lt_row hbx)).trans hbx)); (try (have hbx := (hB0.block _ (by simp)).trans (heap_alloc_new _ _))); have hY : Below wb.heap.size wb V0 := (by first | exact hY.trans (hB0.mono hY.size) | exact (hY.alloc hY.size _).trans (hB0.mono (hY.alloc hY.size _).size) | exact (hY.alloc hY.size _).drew.trans (hB0.mono (hY.alloc hY.size _).drew.size) | exact ((Below.refl wb.heap.size wb).alloc (Nat.le_refl _) _).drew.trans (hB0.mono ((Below.refl wb.heap.size wb).alloc (Nat.le_refl _) _).drew.size) | exact ((Below.refl wb.heap.size wb).alloc (Nat.le_refl _) _).trans (hB0.mono ((Below.refl wb.heap.size wb).alloc (Nat.le_refl _) _).size)); have hn0 := hY.size)
      | (go_at_call 13; (with_reducible refine (HTT.out _ (HXY.out _ (by first | (with_reducible exact hY) | (with_reducible exact (hY.alloc hY.size _)) | (with_reducible exact (hY.alloc hY.size _).drew) | (with_reducible exact ((Below.refl wb.heap.size wb).alloc (Nat.le_refl _) _).drew) | (with_reducible exact ((Below.refl wb.heap.size wb).alloc (Nat.le_refl _) _))))).mono ?_); rintro e V1 ⟨ua, uac, fp2, rfl, HO2, hB1⟩; (try (have hbx := (hB1.block _ (lt_row hbx)).trans hbx)); (try (have hbx := (hB1.block _ (by simp)).trans (heap_alloc_new _ _))); have hY : Below wb.heap.size wb V1 := (by first | exact hY.trans (hB1.mono hY.size) | exact (hY.alloc hY.size _).trans (hB1.mono (hY.alloc hY.size _).size) | exact (hY.alloc hY.size _).drew.trans (hB1.mono (hY.alloc hY.size _).drew.size) | exact ((Below.refl wb.heap.size wb).alloc (Nat.le_refl _) _).drew.trans (hB1.mono ((Below.refl wb.heap.size wb).alloc (Nat.le_refl _) _).drew.size) | exact ((Below.refl wb.heap.size wb).alloc (Nat.le_refl _) _).trans (hB1.mono ((Below.refl wb.heap.size wb).alloc (Nat.le_refl _) _).size)); have hn1 := hY.size)
      | (go_at_call 12; (with_reducible refine (HSP.out _ sa7 sl7 sc7 sa8 sl8 sc8 ua uac (by first | exact HE0.out _ hB1 | exact HE0.out _ (((Below.refl _ _).alloc (Nat.le_refl _) _).trans (hB1.mono (by simp))) | exact HE0.out _ (hB1.alloc hB1.size _)) (by first | exact HO2.out.1.rd | exact HO2.out.1.rd.later ((Below.refl _ _).alloc (Nat.le_refl _) _))).mono ?_); rintro e V2 ⟨y, ok, wK, wN, wS, wa7, wa8, wl7, wc7, wl8, wc8, rfl, HMM, hB2⟩; (try (have hbx := (hB2.block _ (lt_row hbx)).trans hbx)); (try (have hbx := (hB2.block _ (by simp)).trans (heap_alloc_new _ _))); have hY : Below wb.heap.size wb V2 := (by first | exact hY.trans (hB2.mono hY.size) | exact (hY.alloc hY.size _).trans (hB2.mono (hY.alloc hY.size _).size) | exact (hY.alloc hY.size _).drew.trans (hB2.mono (hY.alloc hY.size _).drew.size) | exact ((Below.refl wb.heap.size wb).alloc (Nat.le_refl _) _).drew.trans (hB2.mono ((Below.refl wb.heap.size wb).alloc (Nat.le_refl _) _).drew.size) | exact ((Below.refl wb.heap.size wb).alloc (Nat.le_refl _) _).trans (hB2.mono ((Below.refl wb.heap.size wb).alloc (Nat.le_refl _) _).size)); have hn2 := hY.size; (try (have hq4 := box9 hbx; obtain ⟨⟨e0, e1, e2, e3, e4, e5, e6, e7, e8⟩, z0, z1, z2, z3, z4, z5, z6, z7, z8⟩ := hq4))))
    all_goals
      first
      | (have hq : V2.heap[V1.heap.size]? = some (.cells #[.int .i64 0, .string ⟨#[]⟩, .string ⟨#[]⟩, .int .i64 0, .int .i64 0, .int .i64 0, .string ⟨#[]⟩, .slice none 0 0, .slice none 0 0] 33 (0, 0)) := by with_reducible exact hbx
         clear e0 e1 e2 e3 e4 e5 e6 e7 e8 z0 z1 z2 z3 z4 z5 z6 z7 z8 hbx
         have hq1 : (((((((((V2.setCell ⟨V1.heap.size, 0, none⟩ (.int .i64 y.Pid)).setCell ⟨V1.heap.size, 1, none⟩ (.string y.Name)).setCell ⟨V1.heap.size, 2, none⟩ (.string y.Mod)).setCell ⟨V1.heap.size, 3, none⟩ (.int .i64 y.No)).setCell ⟨V1.heap.size, 4, none⟩ (.int .i64 wK)).setCell ⟨V1.heap.size, 5, none⟩ (.int .i64 wN)).setCell ⟨V1.heap.size, 6, none⟩ (.string wS)).setCell ⟨V1.heap.size, 7, none⟩ (.slice wa7 wl7 wc7)).setCell ⟨V1.heap.size, 8, none⟩ (.slice wa8 wl8 wc8)).heap[V1.heap.size]? = some (.cells #[.int .i64 y.Pid, .string y.Name, .string y.Mod, .int .i64 y.No, .int .i64 wK, .int .i64 wN, .string wS, .slice wa7 wl7 wc7, .slice wa8 wl8 wc8] 33 (0, 0)) := put9 hq (.int .i64 y.Pid) (.string y.Name) (.string y.Mod) (.int .i64 y.No) (.int .i64 wK) (.int .i64 wN) (.string wS) (.slice wa7 wl7 wc7) (.slice wa8 wl8 wc8)
         have hq2 : Below wb.heap.size wb (((((((((V2.setCell ⟨V1.heap.size, 0, none⟩ (.int .i64 y.Pid)).setCell ⟨V1.heap.size, 1, none⟩ (.string y.Name)).setCell ⟨V1.heap.size, 2, none⟩ (.string y.Mod)).setCell ⟨V1.heap.size, 3, none⟩ (.int .i64 y.No)).setCell ⟨V1.heap.size, 4, none⟩ (.int .i64 wK)).setCell ⟨V1.heap.size, 5, none⟩ (.int .i64 wN)).setCell ⟨V1.heap.size, 6, none⟩ (.string wS)).setCell ⟨V1.heap.size, 7, none⟩ (.slice wa7 wl7 wc7)).setCell ⟨V1.heap.size, 8, none⟩ (.slice wa8 wl8 wc8)) := below9 hY (by first | exact Nat.le_refl _ | exact hn0 | exact hn1) (.int .i64 y.Pid) (.string y.Name) (.string y.Mod) (.int .i64 y.No) (.int .i64 wK) (.int .i64 wN) (.string wS) (.slice wa7 wl7 wc7) (.slice wa8 wl8 wc8)
         have hq3 : WorkerR d (((((((((V2.setCell ⟨V1.heap.size, 0, none⟩ (.int .i64 y.Pid)).setCell ⟨V1.heap.size, 1, none⟩ (.string y.Name)).setCell ⟨V1.heap.size, 2, none⟩ (.string y.Mod)).setCell ⟨V1.heap.size, 3, none⟩ (.int .i64 y.No)).setCell ⟨V1.heap.size, 4, none⟩ (.int .i64 wK)).setCell ⟨V1.heap.size, 5, none⟩ (.int .i64 wN)).setCell ⟨V1.heap.size, 6, none⟩ (.string wS)).setCell ⟨V1.heap.size, 7, none⟩ (.slice wa7 wl7 wc7)).setCell ⟨V1.heap.size, 8, none⟩ (.slice wa8 wl8 wc8)) [.int .i64 y.Pid, .string y.Name, .string y.Mod, .int .i64 y.No, .int .i64 wK, .int .i64 wN, .string wS, .slice wa7 wl7 wc7, .slice wa8 wl8 wc8] y := HMM.out.2 (((((((((V2.setCell ⟨V1.heap.size, 0, none⟩ (.int .i64 y.Pid)).setCell ⟨V1.heap.size, 1, none⟩ (.string y.Name)).setCell ⟨V1.heap.size, 2, none⟩ (.string y.Mod)).setCell ⟨V1.heap.size, 3, none⟩ (.int .i64 y.No)).setCell ⟨V1.heap.size, 4, none⟩ (.int .i64 wK)).setCell ⟨V1.heap.size, 5, none⟩ (.int .i64 wN)).setCell ⟨V1.heap.size, 6, none⟩ (.string wS)).setCell ⟨V1.heap.size, 7, none⟩ (.slice wa7 wl7 wc7)).setCell ⟨V1.heap.size, 8, none⟩ (.slice wa8 wl8 wc8)) fun g h1 h2 => kept9 (w := V2) (b := V1.heap.size) (g := g) (by skip; intro e; subst e; (try simp at h1); omega) (.int .i64 y.Pid) (.string y.Name) (.string y.Mod) (.int .i64 y.No) (.int .i64 wK) (.int .i64 wN) (.string wS) (.slice wa7 wl7 wc7) (.slice wa8 wl8 wc8)
         have HF : Hid (PwT x0 (mkT k1 n1 s1 t1) y ok ∧ WorkerR d (((((((((V2.setCell ⟨V1.heap.size, 0, none⟩ (.int .i64 y.Pid)).setCell ⟨V1.heap.size, 1, none⟩ (.string y.Name)).setCell ⟨V1.heap.size, 2, none⟩ (.string y.Mod)).setCell ⟨V1.heap.size, 3, none⟩ (.int .i64 y.No)).setCell ⟨V1.heap.size, 4, none⟩ (.int .i64 wK)).setCell ⟨V1.heap.size, 5, none⟩ (.int .i64 wN)).setCell ⟨V1.heap.size, 6, none⟩ (.string wS)).setCell ⟨V1.heap.size, 7, none⟩ (.slice wa7 wl7 wc7)).setCell ⟨V1.heap.size, 8, none⟩ (.slice wa8 wl8 wc8)) [.int .i64 y.Pid, .string y.Name, .string y.Mod, .int .i64 y.No, .int .i64 wK, .int .i64 wN, .string wS, .slice wa7 wl7 wc7, .slice wa8 wl8 wc8] y ∧ (((((((((V2.setCell ⟨V1.heap.size, 0, none⟩ (.int .i64 y.Pid)).setCell ⟨V1.heap.size, 1, none⟩ (.string y.Name)).setCell ⟨V1.heap.size, 2, none⟩ (.string y.Mod)).setCell ⟨V1.heap.size, 3, none⟩ (.int .i64 y.No)).setCell ⟨V1.heap.size, 4, none⟩ (.int .i64 wK)).setCell ⟨V1.heap.size, 5, none⟩ (.int .i64 wN)).setCell ⟨V1.heap.size, 6, none⟩ (.string wS)).setCell ⟨V1.heap.size, 7, none⟩ (.slice wa7 wl7 wc7)).setCell ⟨V1.heap.size, 8, none⟩ (.slice wa8 wl8 wc8)).heap[V1.heap.size]? = some (.cells #[.int .i64 y.Pid, .string y.Name, .string y.Mod, .int .i64 y.No, .int .i64 wK, .int .i64 wN, .string wS, .slice wa7 wl7 wc7, .slice wa8 wl8 wc8] 33 (0, 0)) ∧ Below wb.heap.size wb (((((((((V2.setCell ⟨V1.heap.size, 0, none⟩ (.int .i64 y.Pid)).setCell ⟨V1.heap.size, 1, none⟩ (.string y.Name)).setCell ⟨V1.heap.size, 2, none⟩ (.string y.Mod)).setCell ⟨V1.heap.size, 3, none⟩ (.int .i64 y.No)).setCell ⟨V1.heap.size, 4, none⟩ (.int .i64 wK)).setCell ⟨V1.heap.size, 5, none⟩ (.int .i64 wN)).setCell ⟨V1.heap.size, 6, none⟩ (.string wS)).setCell ⟨V1.heap.size, 7, none⟩ (.slice wa7 wl7 wc7)).setCell ⟨V1.heap.size, 8, none⟩ (.slice wa8 wl8 wc8))) := ⟨HMM.out.1, hq3, hq1, hq2⟩
         clear hq hq1 hq2 hq3
         go_wp2_with fail
         go_meet
         case rel => exact ⟨V1.heap.size, y, ok, wK, wN, wS, wa7, wa8, wl7, wc7, wl8, wc8, by with_reducible rfl, by with_reducible rfl, by with_reducible exact HF⟩)
      | (have hq : V2.heap[V0.heap.size]? = some (.cells #[.int .i64 0, .string ⟨#[]⟩, .string ⟨#[]⟩, .int .i64 0, .int .i64 0, .int .i64 0, .string ⟨#[]⟩, .slice none 0 0, .slice none 0 0] 33 (0, 0)) := by with_reducible exact hbx
         clear e0 e1 e2 e3 e4 e5 e6 e7 e8 z0 z1 z2 z3 z4 z5 z6 z7 z8 hbx
         have hq1 : (((((((((V2.setCell ⟨V0.heap.size, 0, none⟩ (.int .i64 y.Pid)).setCell ⟨V0.heap.size, 1, none⟩ (.string y.Name)).setCell ⟨V0.heap.size, 2, none⟩ (.string y.Mod)).setCell ⟨V0.heap.size, 3, none⟩ (.int .i64 y.No)).setCell ⟨V0.heap.size, 4, none⟩ (.int .i64 wK)).setCell ⟨V0.heap.size, 5, none⟩ (.int .i64 wN)).setCell ⟨V0.heap.size, 6, none⟩ (.string wS)).setCell ⟨V0.heap.size, 7, none⟩ (.slice wa7 wl7 wc7)).setCell ⟨V0.heap.size, 8, none⟩ (.slice wa8 wl8 wc8)).heap[V0.heap.size]? = some (.cells #[.int .i64 y.Pid, .string y.Name, .string y.Mod, .int .i64 y.No, .int .i64 wK, .int .i64 wN, .string wS, .slice wa7 wl7 wc7, .slice wa8 wl8 wc8] 33 (0, 0)) := put9 hq (.int .i64 y.Pid) (.string y.Name) (.string y.Mod) (.int .i64 y.No) (.int .i64 wK) (.int .i64 wN) (.string wS) (.slice wa7 wl7 wc7) (.slice wa8 wl8 wc8)
         have hq2 : Below wb.heap.size wb (((((((((V2.setCell ⟨V0.heap.size, 0, none⟩ (.int .i64 y.Pid)).setCell ⟨V0.heap.size, 1, none⟩ (.string y.Name)).setCell ⟨V0.heap.size, 2, none⟩ (.string y.Mod)).setCell ⟨V0.heap.size, 3, none⟩ (.int .i64 y.No)).setCell ⟨V0.heap.size, 4, none⟩ (.int .i64 wK)).setCell ⟨V0.heap.size, 5, none⟩ (.int .i64 wN)).setCell ⟨V0.heap.size, 6, none⟩ (.string wS)).setCell ⟨V0.heap.size, 7, none⟩ (.slice wa7 wl7 wc7)).setCell ⟨V0.heap.size, 8, none⟩ (.slice wa8 wl8 wc8)) := below9 hY (by first | exact Nat.le_refl _ | exact hn0 | exact hn1) (.int .i64 y.Pid) (.string y.Name) (.string y.Mod) (.int .i64 y.No) (.int .i64 wK) (.int .i64 wN) (.string wS) (.slice wa7 wl7 wc7) (.slice wa8 wl8 wc8)
         have hq3 : WorkerR d (((((((((V2.setCell ⟨V0.heap.size, 0, none⟩ (.int .i64 y.Pid)).setCell ⟨V0.heap.size, 1, none⟩ (.string y.Name)).setCell ⟨V0.heap.size, 2, none⟩ (.string y.Mod)).setCell ⟨V0.heap.size, 3, none⟩ (.int .i64 y.No)).setCell ⟨V0.heap.size, 4, none⟩ (.int .i64 wK)).setCell ⟨V0.heap.size, 5, none⟩ (.int .i64 wN)).setCell ⟨V0.heap.size, 6, none⟩ (.string wS)).setCell ⟨V0.heap.size, 7, none⟩ (.slice wa7 wl7 wc7)).setCell ⟨V0.heap.size, 8, none⟩ (.slice wa8 wl8 wc8)) [.int .i64 y.Pid, .string y.Name, .string y.Mod, .int .i64 y.No, .int .i64 wK, .int .i64 wN, .string wS, .slice wa7 wl7 wc7, .slice wa8 wl8 wc8] y := HMM.out.2 (((((((((V2.setCell ⟨V0.heap.size, 0, none⟩ (.int .i64 y.Pid)).setCell ⟨V0.heap.size, 1, none⟩ (.string y.Name)).setCell ⟨V0.heap.size, 2, none⟩ (.string y.Mod)).setCell ⟨V0.heap.size, 3, none⟩ (.int .i64 y.No)).setCell ⟨V0.heap.size, 4, none⟩ (.int .i64 wK)).setCell ⟨V0.heap.size, 5, none⟩ (.int .i64 wN)).setCell ⟨V0.heap.size, 6, none⟩ (.string wS)).setCell ⟨V0.heap.size, 7, none⟩ (.slice wa7 wl7 wc7)).setCell ⟨V0.heap.size, 8, none⟩ (.slice wa8 wl8 wc8)) fun g h1 h2 => kept9 (w := V2) (b := V0.heap.size) (g := g) (by have q1 := hB1.size; simp at q1; intro e; subst e; (try simp at h1); omega) (.int .i64 y.Pid) (.string y.Name) (.string y.Mod) (.int .i64 y.No) (.int .i64 wK) (.int .i64 wN) (.string wS) (.slice wa7 wl7 wc7) (.slice wa8 wl8 wc8)
         have HF : Hid (PwT x0 (mkT k1 n1 s1 t1) y ok ∧ WorkerR d (((((((((V2.setCell ⟨V0.heap.size, 0, none⟩ (.int .i64 y.Pid)).setCell ⟨V0.heap.size, 1, none⟩ (.string y.Name)).setCell ⟨V0.heap.size, 2, none⟩ (.string y.Mod)).setCell ⟨V0.heap.size, 3, none⟩ (.int .i64 y.No)).setCell ⟨V0.heap.size, 4, none⟩ (.int .i64 wK)).setCell ⟨V0.heap.size, 5, none⟩ (.int .i64 wN)).setCell ⟨V0.heap.size, 6, none⟩ (.string wS)).setCell ⟨V0.heap.size, 7, none⟩ (.slice wa7 wl7 wc7)).setCell ⟨V0.heap.size, 8, none⟩ (.slice wa8 wl8 wc8)) [.int .i64 y.Pid, .string y.Name, .string y.Mod, .int .i64 y.No, .int .i64 wK, .int .i64 wN, .string wS, .slice wa7 wl7 wc7, .slice wa8 wl8 wc8] y ∧ (((((((((V2.setCell ⟨V0.heap.size, 0, none⟩ (.int .i64 y.Pid)).setCell ⟨V0.heap.size, 1, none⟩ (.string y.Name)).setCell ⟨V0.heap.size, 2, none⟩ (.string y.Mod)).setCell ⟨V0.heap.size, 3, none⟩ (.int .i64 y.No)).setCell ⟨V0.heap.size, 4, none⟩ (.int .i64 wK)).setCell ⟨V0.heap.size, 5, none⟩ (.int .i64 wN)).setCell ⟨V0.heap.size, 6, none⟩ (.string wS)).setCell ⟨V0.heap.size, 7, none⟩ (.slice wa7 wl7 wc7)).setCell ⟨V0.heap.size, 8, none⟩ (.slice wa8 wl8 wc8)).heap[V0.heap.size]? = some (.cells #[.int .i64 y.Pid, .string y.Name, .string y.Mod, .int .i64 y.No, .int .i64 wK, .int .i64 wN, .string wS, .slice wa7 wl7 wc7, .slice wa8 wl8 wc8] 33 (0, 0)) ∧ Below wb.heap.size wb (((((((((V2.setCell ⟨V0.heap.size, 0, none⟩ (.int .i64 y.Pid)).setCell ⟨V0.heap.size, 1, none⟩ (.string y.Name)).setCell ⟨V0.heap.size, 2, none⟩ (.string y.Mod)).setCell ⟨V0.heap.size, 3, none⟩ (.int .i64 y.No)).setCell ⟨V0.heap.size, 4, none⟩ (.int .i64 wK)).setCell ⟨V0.heap.size, 5, none⟩ (.int .i64 wN)).setCell ⟨V0.heap.size, 6, none⟩ (.string wS)).setCell ⟨V0.heap.size, 7, none⟩ (.slice wa7 wl7 wc7)).setCell ⟨V0.heap.size, 8, none⟩ (.slice wa8 wl8 wc8))) := ⟨HMM.out.1, hq3, hq1, hq2⟩
         clear hq hq1 hq2 hq3
         go_wp2_with fail
         go_meet
         case rel => exact ⟨V0.heap.size, y, ok, wK, wN, wS, wa7, wa8, wl7, wc7, wl8, wc8, by with_reducible rfl, by with_reducible rfl, by with_reducible exact HF⟩)
      | (have hq : V2.heap[wb.heap.size]? = some (.cells #[.int .i64 0, .string ⟨#[]⟩, .string ⟨#[]⟩, .int .i64 0, .int .i64 0, .int .i64 0, .string ⟨#[]⟩, .slice none 0 0, .slice none 0 0] 33 (0, 0)) := by with_reducible exact hbx
         clear e0 e1 e2 e3 e4 e5 e6 e7 e8 z0 z1 z2 z3 z4 z5 z6 z7 z8 hbx
         have hq1 : (((((((((V2.setCell ⟨wb.heap.size, 0, none⟩ (.int .i64 y.Pid)).setCell ⟨wb.heap.size, 1, none⟩ (.string y.Name)).setCell ⟨wb.heap.size, 2, none⟩ (.string y.Mod)).setCell ⟨wb.heap.size, 3, none⟩ (.int .i64 y.No)).setCell ⟨wb.heap.size, 4, none⟩ (.int .i64 wK)).setCell ⟨wb.heap.size, 5, none⟩ (.int .i64 wN)).setCell ⟨wb.heap.size, 6, none⟩ (.string wS)).setCell ⟨wb.heap.size, 7, none⟩ (.slice wa7 wl7 wc7)).setCell ⟨wb.heap.size, 8, none⟩ (.slice wa8 wl8 wc8)).heap[wb.heap.size]? = some (.cells #[.int .i64 y.Pid, .string y.Name, .string y.Mod, .int .i64 y.No, .int .i64 wK, .int .i64 wN, .string wS, .slice wa7 wl7 wc7, .slice wa8 wl8 wc8] 33 (0, 0)) := put9 hq (.int .i64 y.Pid) (.string y.Name) (.string y.Mod) (.int .i64 y.No) (.int .i64 wK) (.int .i64 wN) (.string wS) (.slice wa7 wl7 wc7) (.slice wa8 wl8 wc8)
         have hq2 : Below wb.heap.size wb (((((((((V2.setCell ⟨wb.heap.size, 0, none⟩ (.int .i64 y.Pid)).setCell ⟨wb.heap.size, 1, none⟩ (.string y.Name)).setCell ⟨wb.heap.size, 2, none⟩ (.string y.Mod)).setCell ⟨wb.heap.size, 3, none⟩ (.int .i64 y.No)).setCell ⟨wb.heap.size, 4, none⟩ (.int .i64 wK)).setCell ⟨wb.heap.size, 5, none⟩ (.int .i64 wN)).setCell ⟨wb.heap.size, 6, none⟩ (.string wS)).setCell ⟨wb.heap.size, 7, none⟩ (.slice wa7 wl7 wc7)).setCell ⟨wb.heap.size, 8, none⟩ (.slice wa8 wl8 wc8)) := below9 hY (by first | exact Nat.le_refl _ | exact hn0 | exact hn1) (.int .i64 y.Pid) (.string y.Name) (.string y.Mod) (.int .i64 y.No) (.int .i64 wK) (.int .i64 wN) (.string wS) (.slice wa7 wl7 wc7) (.slice wa8 wl8 wc8)
         have hq3 : WorkerR d (((((((((V2.setCell ⟨wb.heap.size, 0, none⟩ (.int .i64 y.Pid)).setCell ⟨wb.heap.size, 1, none⟩ (.string y.Name)).setCell ⟨wb.heap.size, 2, none⟩ (.string y.Mod)).setCell ⟨wb.heap.size, 3, none⟩ (.int .i64 y.No)).setCell ⟨wb.heap.size, 4, none⟩ (.int .i64 wK)).setCell ⟨wb.heap.size, 5, none⟩ (.int .i64 wN)).setCell ⟨wb.heap.size, 6, none⟩ (.string wS)).setCell ⟨wb.heap.size, 7, none⟩ (.slice wa7 wl7 wc7)).setCell ⟨wb.heap.size, 8, none⟩ (.slice wa8 wl8 wc8)) [.int .i64 y.Pid, .string y.Name, .string y.Mod, .int .i64 y.No, .int .i64 wK, .int .i64 wN, .string wS, .slice wa7 wl7 wc7, .slice wa8 wl8 wc8] y := HMM.out.2 (((((((((V2.setCell ⟨wb.heap.size, 0, none⟩ (.int .i64 y.Pid)).setCell ⟨wb.heap.size, 1, none⟩ (.string y.Name)).setCell ⟨wb.heap.size, 2, none⟩ (.string y.Mod)).setCell ⟨wb.heap.size, 3, none⟩ (.int .i64 y.No)).setCell ⟨wb.heap.size, 4, none⟩ (.int .i64 wK)).setCell ⟨wb.heap.size, 5, none⟩ (.int .i64 wN)).setCell ⟨wb.heap.size, 6, none⟩ (.string wS)).setCell ⟨wb.heap.size, 7, none⟩ (.slice wa7 wl7 wc7)).setCell ⟨wb.heap.size, 8, none⟩ (.slice wa8 wl8 wc8)) fun g h1 h2 => kept9 (w := V2) (b := wb.heap.size) (g := g) (by have q1 := hB1.size; have q0 := hB0.size; simp at q0; intro e; subst e; (try simp at h1); omega) (.int .i64 y.Pid) (.string y.Name) (.string y.Mod) (.int .i64 y.No) (.int .i64 wK) (.int .i64 wN) (.string wS) (.slice wa7 wl7 wc7) (.slice wa8 wl8 wc8)
         have HF : Hid (PwT x0 (mkT k1 n1 s1 t1) y ok ∧ WorkerR d (((((((((V2.setCell ⟨wb.heap.size, 0, none⟩ (.int .i64 y.Pid)).setCell ⟨wb.heap.size, 1, none⟩ (.string y.Name)).setCell ⟨wb.heap.size, 2, none⟩ (.string y.Mod)).setCell ⟨wb.heap.size, 3, none⟩ (.int .i64 y.No)).setCell ⟨wb.heap.size, 4, none⟩ (.int .i64 wK)).setCell ⟨wb.heap.size, 5, none⟩ (.int .i64 wN)).setCell ⟨wb.heap.size, 6, none⟩ (.string wS)).setCell ⟨wb.heap.size, 7, none⟩ (.slice wa7 wl7 wc7)).setCell ⟨wb.heap.size, 8, none⟩ (.slice wa8 wl8 wc8)) [.int .i64 y.Pid, .string y.Name, .string y.Mod, .int .i64 y.No, .int .i64 wK, .int .i64 wN, .string wS, .slice wa7 wl7 wc7, .slice wa8 wl8 wc8] y ∧ (((((((((V2.setCell ⟨wb.heap.size, 0, none⟩ (.int .i64 y.Pid)).setCell ⟨wb.heap.size, 1, none⟩ (.string y.Name)).setCell ⟨wb.heap.size, 2, none⟩ (.string y.Mod)).setCell ⟨wb.heap.size, 3, none⟩ (.int .i64 y.No)).setCell ⟨wb.heap.size, 4, none⟩ (.int .i64 wK)).setCell ⟨wb.heap.size, 5, none⟩ (.int .i64 wN)).setCell ⟨wb.heap.size, 6, none⟩ (.string wS)).setCell ⟨wb.heap.size, 7, none⟩ (.slice wa7 wl7 wc7)).setCell ⟨wb.heap.size, 8, none⟩ (.slice wa8 wl8 wc8)).heap[wb.heap.size]? = some (.cells #[.int .i64 y.Pid, .string y.Name, .string y.Mod, .int .i64 y.No, .int .i64 wK, .int .i64 wN, .string wS, .slice wa7 wl7 wc7, .slice wa8 wl8 wc8] 33 (0, 0)) ∧ Below wb.heap.size wb (((((((((V2.setCell ⟨wb.heap.size, 0, none⟩ (.int .i64 y.Pid)).setCell ⟨wb.heap.size, 1, none⟩ (.string y.Name)).setCell ⟨wb.heap.size, 2, none⟩ (.string y.Mod)).setCell ⟨wb.heap.size, 3, none⟩ (.int .i64 y.No)).setCell ⟨wb.heap.size, 4, none⟩ (.int .i64 wK)).setCell ⟨wb.heap.size, 5, none⟩ (.int .i64 wN)).setCell ⟨wb.heap.size, 6, none⟩ (.string wS)).setCell ⟨wb.heap.size, 7, none⟩ (.slice wa7 wl7 wc7)).setCell ⟨wb.heap.size, 8, none⟩ (.slice wa8 wl8 wc8))) := ⟨HMM.out.1, hq3, hq1, hq2⟩
         clear hq hq1 hq2 hq3
         go_wp2_with fail
         go_meet
         case rel => exact ⟨wb.heap.size, y, ok, wK, wN, wS, wa7, wa8, wl7, wc7, wl8, wc8, by with_reducible rfl, by with_reducible rfl, by with_reducible exact HF⟩)
      | (have HF : Hid (PwT x0 (mkT k1 n1 s1 t1) y ok ∧ WorkerR d (V2.alloc (.cells #[.int .i64 y.Pid, .string y.Name, .string y.Mod, .int .i64 y.No, .int .i64 wK, .int .i64 wN, .string wS, .slice wa7 wl7 wc7, .slice wa8 wl8 wc8] 33)) [.int .i64 y.Pid, .string y.Name, .string y.Mod, .int .i64 y.No, .int .i64 wK, .int .i64 wN, .string wS, .slice wa7 wl7 wc7, .slice wa8 wl8 wc8] y ∧ (V2.alloc (.cells #[.int .i64 y.Pid, .string y.Name, .string y.Mod, .int .i64 y.No, .int .i64 wK, .int .i64 wN, .string wS, .slice wa7 wl7 wc7, .slice wa8 wl8 wc8] 33)).heap[V2.heap.size]? = some (.cells #[.int .i64 y.Pid, .string y.Name, .string y.Mod, .int .i64 y.No, .int .i64 wK, .int .i64 wN, .string wS, .slice wa7 wl7 wc7, .slice wa8 wl8 wc8] 33 (0, 0)) ∧ Below wb.heap.size wb (V2.alloc (.cells #[.int .i64 y.Pid, .string y.Name, .string y.Mod, .int .i64 y.No, .int .i64 wK, .int .i64 wN, .string wS, .slice wa7 wl7 wc7, .slice wa8 wl8 wc8] 33))) := ⟨HMM.out.1, HMM.out.2 _ (fun g h1 h2 => ((Below.refl _ _).alloc (Nat.le_refl _) _ : Below V2.heap.size V2 (V2.alloc (.cells #[.int .i64 y.Pid, .string y.Name, .string y.Mod, .int .i64 y.No, .int .i64 wK, .int .i64 wN, .string wS, .slice wa7 wl7 wc7, .slice wa8 wl8 wc8] 33))).block g h2), heap_alloc_new V2 _, hY.alloc hY.size _⟩
         go_wp2_with fail
         go_meet
         case rel => exact ⟨V2.heap.size, y, ok, wK, wN, wS, wa7, wa8, wl7, wc7, wl8, wc8, by with_reducible rfl, by with_reducible rfl, by with_reducible exact HF⟩)
  case rest =>
  obtain ⟨XW, y, ok, wK, wN, wS, wa7, wa8, wl7, wc7, wl8, wc8, hu6, hu7, HWc⟩ := hcut
  obtain ⟨A, hA⟩ : ∃ X, X = wc := ⟨_, rfl⟩
  rw [← hA] at HWc ⊢
  rw [hu6, hu7]
  have HBA : Hid (Below W1.heap.size W1 A) := HBB.out.trans (HWc.out.2.2.2.mono HBB.out.size)
  clear hA hu6 hu7 HSK HXY hY HBB HBW HSP
  have HVT : Hid (PwT x0 (mkT k1 n1 s1 t1) y ok) := HWc.out.1
  have HWF : Hid (WfWorker (d + 1) (upW y)) := (HWc.out.1.wf HF.out.1 HF.out.2.1).up
  have HCK : Hid (ckSWorker (d + 1) (upW y) ≤ 10000000) := HWc.out.1.ck (wk_cnt HZ.out) HCT.out
  have HKA : Hid (∀ V : World, Below A.heap.size A V → V.heap[w.heap.size]? = some (.cells #[.int .i64 x0.Pid, .string x0.Name, .string x0.Mod, .int .i64 x0.No, .int .i64 x0.State.K, .int .i64 x0.State.N, .string x0.State.S, .slice pa7 pl7 pc7, .slice pa8 pl8 pc8] 26 (0, 0)) ∧ V.heap[w.heap.size + 1]? = some (.cells #[.int .i64 k1, .int .i64 n1, .string s1, .slice ta tn tac] 24 (0, 0)) ∧ V.heap[XW]? = some (.cells #[.int .i64 y.Pid, .string y.Name, .string y.Mod, .int .i64 y.No, .int .i64 wK, .int .i64 wN, .string wS, .slice wa7 wl7 wc7, .slice wa8 wl8 wc8] 33 (0, 0)) ∧ WorkerR (d + 1) V [.int .i64 y.Pid, .string y.Name, .string y.Mod, .int .i64 y.No, .int .i64 wK, .int .i64 wN, .string wS, .slice wa7 wl7 wc7, .slice wa8 wl8 wc8] (upW y) ∧ Below w.heap.size w V) := fun V hV => by
    obtain ⟨h1, h2, h3, _⟩ := HPT.out V (HBA.out.trans (hV.mono HBA.out.size))
    exact ⟨h1, h2, (hV.block _ (lt_row HWc.out.2.2.1)).trans HWc.out.2.2.1, (WorkerR.lasts d _ _ _ _ HWc.out.2.1 hV).up, h3⟩
  have HAN : Hid (w.heap.size ≤ A.heap.size ∧ XW < A.heap.size) := ⟨(HKA.out A (Below.refl A.heap.size A)).2.2.2.2.size, lt_row HWc.out.2.2.1⟩
  clear HWc HPT HBA
  have hK := HKA.out A (Below.refl A.heap.size A)
  have b0 : A.cell? ⟨w.heap.size, 0, none⟩ = some (.int .i64 x0.Pid) := by rw [cell_of_row A _ 0 _ _ _ hK.1]; rfl
  have b1 : A.cell? ⟨w.heap.size, 1, none⟩ = some (.string x0.Name) := by rw [cell_of_row A _ 1 _ _ _ hK.1]; rfl
  have b2 : A.cell? ⟨w.heap.size, 2, none⟩ = some (.string x0.Mod) := by rw [cell_of_row A _ 2 _ _ _ hK.1]; rfl
  have b3 : A.cell? ⟨w.heap.size, 3, none⟩ = some (.int .i64 x0.No) := by rw [cell_of_row A _ 3 _ _ _ hK.1]; rfl
  have b4 : A.cell? ⟨w.heap.size, 4, none⟩ = some (.int .i64 x0.State.K) := by rw [cell_of_row A _ 4 _ _ _ hK.1]; rfl
  have b5 : A.cell? ⟨w.heap.size, 5, none⟩ = some (.int .i64 x0.State.N) := by rw [cell_of_row A _ 5 _ _ _ hK.1]; rfl
  have b6 : A.cell? ⟨w.heap.size, 6, none⟩ = some (.string x0.State.S) := by rw [cell_of_row A _ 6 _ _ _ hK.1]; rfl
  have b7 : A.cell? ⟨w.heap.size, 7, none⟩ = some (.slice pa7 pl7 pc7) := by rw [cell_of_row A _ 7 _ _ _ hK.1]; rfl
  have b8 : A.cell? ⟨w.heap.size, 8, none⟩ = some (.slice pa8 pl8 pc8) := by rw [cell_of_row A _ 8 _ _ _ hK.1]; rfl
  have hbw := hK.2.2.2.2
  clear hK
  go_wp2_with fail
  refine (HTX.out A hbw).mono ?_
  clear b0 b1 b2 b3 b4 b5 b6 b7 b8
  rintro e wf ⟨ra7, rl7, rc7, ra8, rl8, rc8, fpx, rfl, HOX0, belf⟩
  obtain ⟨X1, hX1⟩ : ∃ X, wf.heap.size = X := ⟨_, rfl⟩
  obtain ⟨C1, hC1⟩ : ∃ X, X = wf.alloc (.cells #[.int .i64 x0.Pid, .string x0.Name, .string x0.Mod, .int .i64 x0.No, .int .i64 x0.State.K, .int .i64 x0.State.N, .string x0.State.S, .slice ra7 rl7 rc7, .slice ra8 rl8 rc8] 33) := ⟨_, rfl⟩
  have bC1 : Below wf.heap.size wf C1 := by rw [hC1]; exact (Below.refl _ _).alloc (Nat.le_refl _) _
  have nX : C1.heap[X1]? = some (.cells #[.int .i64 x0.Pid, .string x0.Name, .string x0.Mod, .int .i64 x0.No, .int .i64 x0.State.K, .int .i64 x0.State.N, .string x0.State.S, .slice ra7 rl7 rc7, .slice ra8 rl8 rc8] 33 (0, 0)) := by rw [hC1, ← hX1]; exact heap_alloc_new wf _
  have sC1 : C1.heap.size = X1 + 1 := by rw [hC1, ← hX1]; simp
  have bAC : Below A.heap.size A C1 := belf.trans (bC1.mono belf.size)
  have HFX : Hid (fpx.Nodup ∧ (∀ g ∈ fpx, A.heap.size ≤ g ∧ g < X1) ∧ A.heap.size ≤ X1 ∧ C1.heap.size = X1 + 1) := ⟨HOX0.out.2.1, fun g hg => by have := HOX0.out.2.2 g hg; omega, by have := belf.size; omega, sC1⟩
  have HOX : Hid (∀ V : World, Below C1.heap.size C1 V → WorkerO d V [.int .i64 x0.Pid, .string x0.Name, .string x0.Mod, .int .i64 x0.No, .int .i64 x0.State.K, .int .i64 x0.State.N, .string x0.State.S, .slice ra7 rl7 rc7, .slice ra8 rl8 rc8] x0 fpx ∧ V.heap[X1]? = some (.cells #[.int .i64 x0.Pid, .string x0.Name, .string x0.Mod, .int .i64 x0.No, .int .i64 x0.State.K, .int .i64 x0.State.N, .string x0.State.S, .slice ra7 rl7 rc7, .slice ra8 rl8 rc8] 33 (0, 0)) ∧ Below A.heap.size A V) := fun V hV =>
    ⟨WorkerO.lasts d _ _ _ _ _ HOX0.out.1 fun g hg => (hV.block g (by have := HFX.out.2.1 g hg; have := HFX.out.2.2.2; omega)).trans (bC1.block g (by have := HFX.out.2.1 g hg; omega)), (hV.block _ (lt_row nX)).trans nX, bAC.trans (hV.mono bAC.size)⟩
  have hK := HKA.out C1 bAC
  have c0 : C1.cell? ⟨w.heap.size + 1, 0, none⟩ = some (.int .i64 k1) := by rw [cell_of_row C1 _ 0 _ _ _ hK.2.1]; rfl
  have c1 : C1.cell? ⟨w.heap.size + 1, 1, none⟩ = some (.int .i64 n1) := by rw [cell_of_row C1 _ 1 _ _ _ hK.2.1]; rfl
  have c2 : C1.cell? ⟨w.heap.size + 1, 2, none⟩ = some (.string s1) := by rw [cell_of_row C1 _ 2 _ _ _ hK.2.1]; rfl
  have c3 : C1.cell? ⟨w.heap.size + 1, 3, none⟩ = some (.slice ta tn tac) := by rw [cell_of_row C1 _ 3 _ _ _ hK.2.1]; rfl
  have hbw2 := hK.2.2.2.2
  have HC1 : Hid (C1 = _) := hC1
  rw [hC1] at c0 c1 c2 c3
  have hCT := HTT.out C1 hbw2
  rw [hC1] at hCT
  clear hK hbw belf bC1 nX sC1 bAC hC1 HOX0
  go_wp2_with fail
  refine hCT.mono ?_
  clear hCT c0 c1 c2 c3
  rw [← HC1.out]
  rintro e wg ⟨ua, uac, fpt, rfl, HOT0, belg⟩
  obtain ⟨X2, hX2⟩ : ∃ X, wg.heap.size = X := ⟨_, rfl⟩
  obtain ⟨C2, hC2⟩ : ∃ X, X = wg.alloc (.cells #[.int .i64 k1, .int .i64 n1, .string s1, .slice ua tn uac] 31) := ⟨_, rfl⟩
  have bC2 : Below wg.heap.size wg C2 := by rw [hC2]; exact (Below.refl _ _).alloc (Nat.le_refl _) _
  have nU : C2.heap[X2]? = some (.cells #[.int .i64 k1, .int .i64 n1, .string s1, .slice ua tn uac] 31 (0, 0)) := by rw [hC2, ← hX2]; exact heap_alloc_new wg _
  have sC2 : C2.heap.size = X2 + 1 := by rw [hC2, ← hX2]; simp
  have bCC : Below C1.heap.size C1 C2 := belg.trans (bC2.mono belg.size)
  have HFT : Hid (fpt.Nodup ∧ (∀ g ∈ fpt, C1.heap.size ≤ g ∧ g < X2) ∧ C1.heap.size ≤ X2 ∧ C2.heap.size = X2 + 1) := ⟨HOT0.out.2.1, fun g hg => by have := HOT0.out.2.2 g hg; omega, by have := belg.size; omega, sC2⟩
  have HOT : Hid (∀ V : World, Below C2.heap.size C2 V → (WorkerO d V [.int .i64 x0.Pid, .string x0.Name, .string x0.Mod, .int .i64 x0.No, .int .i64 x0.State.K, .int .i64 x0.State.N, .string x0.State.S, .slice ra7 rl7 rc7, .slice ra8 rl8 rc8] x0 fpx ∧ V.heap[X1]? = some (.cells #[.int .i64 x0.Pid, .string x0.Name, .string x0.Mod, .int .i64 x0.No, .int .i64 x0.State.K, .int .i64 x0.State.N, .string x0.State.S, .slice ra7 rl7 rc7, .slice ra8 rl8 rc8] 33 (0, 0)) ∧ Below A.heap.size A V) ∧ OwnL d V (.slice ua tn uac) t1 fpt ∧ V.heap[X2]? = some (.cells #[.int .i64 k1, .int .i64 n1, .string s1, .slice ua tn uac] 31 (0, 0))) := fun V hV =>
    ⟨HOX.out V (bCC.trans (hV.mono bCC.size)), HOT0.out.1.frame fun g hg => (hV.block g (by have := HFT.out.2.1 g hg; have := HFT.out.2.2.2; omega)).trans (bC2.block g (by have := HFT.out.2.1 g hg; omega)), (hV.block _ (lt_row nU)).trans nU⟩
  have hO := HOT.out C2 (Below.refl C2.heap.size C2)
  have b0 : C2.cell? ⟨X1, 0, none⟩ = some (.int .i64 x0.Pid) := by rw [cell_of_row C2 _ 0 _ _ _ hO.1.2.1]; rfl
  have b1 : C2.cell? ⟨X1, 1, none⟩ = some (.string x0.Name) := by rw [cell_of_row C2 _ 1 _ _ _ hO.1.2.1]; rfl
  have b2 : C2.cell? ⟨X1, 2, none⟩ = some (.string x0.Mod) := by rw [cell_of_row C2 _ 2 _ _ _ hO.1.2.1]; rfl
  have b3 : C2.cell? ⟨X1, 3, none⟩ = some (.int .i64 x0.No) := by rw [cell_of_row C2 _ 3 _ _ _ hO.1.2.1]; rfl
  have b4 : C2.cell? ⟨X1, 4, none⟩ = some (.int .i64 x0.State.K) := by rw [cell_of_row C2 _ 4 _ _ _ hO.1.2.1]; rfl
  have b5 : C2.cell? ⟨X1, 5, none⟩ = some (.int .i64 x0.State.N) := by rw [cell_of_row C2 _ 5 _ _ _ hO.1.2.1]; rfl
  have b6 : C2.cell? ⟨X1, 6, none⟩ = some (.string x0.State.S) := by rw [cell_of_row C2 _ 6 _ _ _ hO.1.2.1]; rfl
  have b7 : C2.cell? ⟨X1, 7, none⟩ = some (.slice ra7 rl7 rc7) := by rw [cell_of_row C2 _ 7 _ _ _ hO.1.2.1]; rfl
  have b8 : C2.cell? ⟨X1, 8, none⟩ = some (.slice ra8 rl8 rc8) := by rw [cell_of_row C2 _ 8 _ _ _ hO.1.2.1]; rfl
  have c0 : C2.cell? ⟨X2, 0, none⟩ = some (.int .i64 k1) := by rw [cell_of_row C2 _ 0 _ _ _ hO.2.2]; rfl
  have c1 : C2.cell? ⟨X2, 1, none⟩ = some (.int .i64 n1) := by rw [cell_of_row C2 _ 1 _ _ _ hO.2.2]; rfl
  have c2 : C2.cell? ⟨X2, 2, none⟩ = some (.string s1) := by rw [cell_of_row C2 _ 2 _ _ _ hO.2.2]; rfl
  have c3 : C2.cell? ⟨X2, 3, none⟩ = some (.slice ua tn uac) := by rw [cell_of_row C2 _ 3 _ _ _ hO.2.2]; rfl
  rw [hC2] at b0 b1 b2 b3 b4 b5 b6 b7 b8 c0 c1 c2 c3
  have HC2 : Hid (C2 = _) := hC2
  have hC : Calls Try.prog 14 #[.agg #[.int .i64 x0.Pid, .string x0.Name, .string x0.Mod, .int .i64 x0.No, .int .i64 x0.State.K, .int .i64 x0.State.N, .string x0.State.S, .slice ra7 rl7 rc7, .slice ra8 rl8 rc8], .agg #[.int .i64 k1, .int .i64 n1, .string s1, .slice ua tn uac]] C2 fun e w' => PwRes x0 (mkT k1 n1 s1 t1) C2 e w' := implPutWord_any d x0 (mkT k1 n1 s1 t1) ra7 ra8 ua rl7 rc7 rl8 rc8 tn uac C2 (WorkerO.reads d _ _ _ _ hO.1.1) (WorkerO.rdqs hO.1.1).1 (WorkerO.rdqs hO.1.1).2 hO.2.1.rdq hO.2.1.rd HF.out.1 HZ.out HF.out.2.1 HCT.out
  rw [hC2] at hC
  clear hO belg bC2 nU sC2 bCC hC2 HOT0 HC1 hbw2
  go_wp2_with fail
  refine hC.mono ?_
  clear hC b0 b1 b2 b3 b4 b5 b6 b7 b8 c0 c1 c2 c3
  rw [← HC2.out]
  rintro e wh ⟨y2, ok2, gK, gN, gS, ga7, ga8, gl7, gc7, gl8, gc8, fpg, rfl, HV2, belh⟩
  obtain ⟨rfl, rfl⟩ := HVT.out.same HV2.out.1
  obtain ⟨XG, hXG⟩ : ∃ X, wh.heap.size = X := ⟨_, rfl⟩
  obtain ⟨G, hG⟩ : ∃ X, X = wh.alloc (.cells #[.int .i64 y.Pid, .string y.Name, .string y.Mod, .int .i64 y.No, .int .i64 gK, .int .i64 gN, .string gS, .slice ga7 gl7 gc7, .slice ga8 gl8 gc8] 33) := ⟨_, rfl⟩
  have bG : Below wh.heap.size wh G := by rw [hG]; exact (Below.refl _ _).alloc (Nat.le_refl _) _
  have nG : G.heap[XG]? = some (.cells #[.int .i64 y.Pid, .string y.Name, .string y.Mod, .int .i64 y.No, .int .i64 gK, .int .i64 gN, .string gS, .slice ga7 gl7 gc7, .slice ga8 gl8 gc8] 33 (0, 0)) := by rw [hG, ← hXG]; exact heap_alloc_new wh _
  have sG : G.heap.size = XG + 1 := by rw [hG, ← hXG]; simp
  have bCG : Below C2.heap.size C2 G := belh.trans (bG.mono belh.size)
  have HFG : Hid (fpg.Nodup ∧ (∀ g ∈ fpg, C2.heap.size ≤ g ∧ g < XG) ∧ C2.heap.size ≤ XG ∧ G.heap.size = XG + 1) := ⟨HV2.out.2.2.1, fun g hg => by have := HV2.out.2.2.2 g hg; omega, by have := belh.size; omega, sG⟩
  have HSG : Hid (∀ V : World, Below G.heap.size G V → ((WorkerO d V [.int .i64 x0.Pid, .string x0.Name, .string x0.Mod, .int .i64 x0.No, .int .i64 x0.State.K, .int .i64 x0.State.N, .string x0.State.S, .slice ra7 rl7 rc7, .slice ra8 rl8 rc8] x0 fpx ∧ V.heap[X1]? = some (.cells #[.int .i64 x0.Pid, .string x0.Name, .string x0.Mod, .int .i64 x0.No, .int .i64 x0.State.K, .int .i64 x0.State.N, .string x0.State.S, .slice ra7 rl7 rc7, .slice ra8 rl8 rc8] 33 (0, 0)) ∧ Below A.heap.size A V) ∧ OwnL d V (.slice ua tn uac) t1 fpt ∧ V.heap[X2]? = some (.cells #[.int .i64 k1, .int .i64 n1, .string s1, .slice ua tn uac] 31 (0, 0))) ∧ WorkerO (d + 1) V [.int .i64 y.Pid, .string y.Name, .string y.Mod, .int .i64 y.No, .int .i64 gK, .int .i64 gN, .string gS, .slice ga7 gl7 gc7, .slice ga8 gl8 gc8] (upW y) fpg ∧ V.heap[XG]? = some (.cells #[.int .i64 y.Pid, .string y.Name, .string y.Mod, .int .i64 y.No, .int .i64 gK, .int .i64 gN, .string gS, .slice ga7 gl7 gc7, .slice ga8 gl8 gc8] 33 (0, 0))) := fun V hV =>
    ⟨HOT.out V (bCG.trans (hV.mono bCG.size)), WorkerO.lasts (d + 1) _ _ _ _ _ HV2.out.2.1 fun g hg => (hV.block g (by have := HFG.out.2.1 g hg; have := HFG.out.2.2.2; omega)).trans (bG.block g (by have := HFG.out.2.1 g hg; omega)), (hV.block _ (lt_row nG)).trans nG⟩
  have hS := HSG.out G (Below.refl G.heap.size G)
  have hK := HKA.out G hS.1.1.2.2
  have hC := eqWorker_any (d + 1) [.int .i64 y.Pid, .string y.Name, .string y.Mod, .int .i64 y.No, .int .i64 gK, .int .i64 gN, .string gS, .slice ga7 gl7 gc7, .slice ga8 gl8 gc8] [.int .i64 y.Pid, .string y.Name, .string y.Mod, .int .i64 y.No, .int .i64 wK, .int .i64 wN, .string wS, .slice wa7 wl7 wc7, .slice wa8 wl8 wc8] (upW y) G (WorkerO.reads (d + 1) _ _ _ _ hS.2.1) hK.2.2.2.1 HWF.out
  have c0 : G.cell? ⟨XG, 0, none⟩ = some (.int .i64 y.Pid) := by rw [cell_of_row G _ 0 _ _ _ hS.2.2]; rfl
  have c1 : G.cell? ⟨XG, 1, none⟩ = some (.string y.Name) := by rw [cell_of_row G _ 1 _ _ _ hS.2.2]; rfl
  have c2 : G.cell? ⟨XG, 2, none⟩ = some (.string y.Mod) := by rw [cell_of_row G _ 2 _ _ _ hS.2.2]; rfl
  have c3 : G.cell? ⟨XG, 3, none⟩ = some (.int .i64 y.No) := by rw [cell_of_row G _ 3 _ _ _ hS.2.2]; rfl
  have c4 : G.cell? ⟨XG, 4, none⟩ = some (.int .i64 gK) := by rw [cell_of_row G _ 4 _ _ _ hS.2.2]; rfl
  have c5 : G.cell? ⟨XG, 5, none⟩ = some (.int .i64 gN) := by rw [cell_of_row G _ 5 _ _ _ hS.2.2]; rfl
  have c6 : G.cell? ⟨XG, 6, none⟩ = some (.string gS) := by rw [cell_of_row G _ 6 _ _ _ hS.2.2]; rfl
  have c7 : G.cell? ⟨XG, 7, none⟩ = some (.slice ga7 gl7 gc7) := by rw [cell_of_row G _ 7 _ _ _ hS.2.2]; rfl
  have c8 : G.cell? ⟨XG, 8, none⟩ = some (.slice ga8 gl8 gc8) := by rw [cell_of_row G _ 8 _ _ _ hS.2.2]; rfl
  have e0 : G.cell? ⟨XW, 0, none⟩ = some (.int .i64 y.Pid) := by rw [cell_of_row G _ 0 _ _ _ hK.2.2.1]; rfl
  have e1 : G.cell? ⟨XW, 1, none⟩ = some (.string y.Name) := by rw [cell_of_row G _ 1 _ _ _ hK.2.2.1]; rfl
  have e2 : G.cell? ⟨XW, 2, none⟩ = some (.string y.Mod) := by rw [cell_of_row G _ 2 _ _ _ hK.2.2.1]; rfl
  have e3 : G.cell? ⟨XW, 3, none⟩ = some (.int .i64 y.No) := by rw [cell_of_row G _ 3 _ _ _ hK.2.2.1]; rfl
  have e4 : G.cell? ⟨XW, 4, none⟩ = some (.int .i64 wK) := by rw [cell_of_row G _ 4 _ _ _ hK.2.2.1]; rfl
  have e5 : G.cell? ⟨XW, 5, none⟩ = some (.int .i64 wN) := by rw [cell_of_row G _ 5 _ _ _ hK.2.2.1]; rfl
  have e6 : G.cell? ⟨XW, 6, none⟩ = some (.string wS) := by rw [cell_of_row G _ 6 _ _ _ hK.2.2.1]; rfl
  have e7 : G.cell? ⟨XW, 7, none⟩ = some (.slice wa7 wl7 wc7) := by rw [cell_of_row G _ 7 _ _ _ hK.2.2.1]; rfl
  have e8 : G.cell? ⟨XW, 8, none⟩ = some (.slice wa8 wl8 wc8) := by rw [cell_of_row G _ 8 _ _ _ hK.2.2.1]; rfl
  rw [hG] at hC c0 c1 c2 c3 c4 c5 c6 c7 c8 e0 e1 e2 e3 e4 e5 e6 e7 e8
  have HGE : Hid (G = _) := hG
  have hne : (ok != ok) = false := by cases ok <;> rfl
  clear HV2 belh hG bG nG sG bCG hS hK HOT HOX HC2
  have hwlt : XW < XG := by have := HAN.out; have := HFX.out; have := HFT.out; have := HFG.out; omega
  go_wp2_with fail
  refine hC.mono ?_
  clear hC c0 c1 c2 c3 c4 c5 c6 c7 c8 e0 e1 e2 e3 e4 e5 e6 e7 e8
  rw [← HGE.out]
  rintro e V1 ⟨rfl, hb1⟩
  have HC1 : Hid (Below G.heap.size G V1) := hb1
  have hS := HSG.out V1 hb1
  have hK := HKA.out V1 hS.1.1.2.2
  have HSK1 : Hid (∀ V : World, Below V1.heap.size V1 V → V.cell? ⟨X1, 0, none⟩ = some (.int .i64 x0.Pid) ∧ V.cell? ⟨X1, 1, none⟩ = some (.string x0.Name) ∧ V.cell? ⟨X1, 2, none⟩ = some (.string x0.Mod) ∧ V.cell? ⟨X1, 3, none⟩ = some (.int .i64 x0.No) ∧ V.cell? ⟨X1, 4, none⟩ = some (.int .i64 x0.State.K) ∧ V.cell? ⟨X1, 5, none⟩ = some (.int .i64 x0.State.N) ∧ V.cell? ⟨X1, 6, none⟩ = some (.string x0.State.S) ∧ V.cell? ⟨X1, 7, none⟩ = some (.slice ra7 rl7 rc7) ∧ V.cell? ⟨X1, 8, none⟩ = some (.slice ra8 rl8 rc8) ∧ V.cell? ⟨w.heap.size, 0, none⟩ = some (.int .i64 x0.Pid) ∧ V.cell? ⟨w.heap.size, 1, none⟩ = some (.string x0.Name) ∧ V.cell? ⟨w.heap.size, 2, none⟩ = some (.string x0.Mod) ∧ V.cell? ⟨w.heap.size, 3, none⟩ = some (.int .i64 x0.No) ∧ V.cell? ⟨w.heap.size, 4, none⟩ = some (.int .i64 x0.State.K) ∧ V.cell? ⟨w.heap.size, 5, none⟩ = some (.int .i64 x0.State.N) ∧ V.cell? ⟨w.heap.size, 6, none⟩ = some (.string x0.State.S) ∧ V.cell? ⟨w.heap.size, 7, none⟩ = some (.slice pa7 pl7 pc7) ∧ V.cell? ⟨w.heap.size, 8, none⟩ = some (.slice pa8 pl8 pc8)) := fun V hV => by
    have hS := HSG.out V (HC1.out.trans (hV.mono HC1.out.size))
    have hK := HKA.out V hS.1.1.2.2
    have hc := fun k => cell_of_row V X1 k _ _ _ hS.1.1.2.1
    have hd := fun k => cell_of_row V w.heap.size k _ _ _ hK.1
    exact ⟨by rw [hc]; rfl, by rw [hc]; rfl, by rw [hc]; rfl, by rw [hc]; rfl, by rw [hc]; rfl, by rw [hc]; rfl, by rw [hc]; rfl, by rw [hc]; rfl, by rw [hc]; rfl, by rw [hd]; rfl, by rw [hd]; rfl, by rw [hd]; rfl, by rw [hd]; rfl, by rw [hd]; rfl, by rw [hd]; rfl, by rw [hd]; rfl, by rw [hd]; rfl, by rw [hd]; rfl⟩
  have HSD : Hid (Below w.heap.size w V1.drew) := hK.2.2.2.2.drew
  have HGD : Hid (Below V1.heap.size V1 V1.drew) := (Below.refl _ _).drew
  have HEX : Hid (∀ (V : World) (sa7 : Option Addr) (sl7 sc7 : Nat) (sa8 : Option Addr) (sl8 sc8 : Nat), Below V1.heap.size V1 V → WorkerR d V [.int .i64 x0.Pid, .string x0.Name, .string x0.Mod, .int .i64 x0.No, .int .i64 x0.State.K, .int .i64 x0.State.N, .string x0.State.S, .slice sa7 sl7 sc7, .slice sa8 sl8 sc8] x0 → Calls Try.prog 10 #[.agg #[.int .i64 x0.Pid, .string x0.Name, .string x0.Mod, .int .i64 x0.No, .int .i64 x0.State.K, .int .i64 x0.State.N, .string x0.State.S, .slice ra7 rl7 rc7, .slice ra8 rl8 rc8], .agg #[.int .i64 x0.Pid, .string x0.Name, .string x0.Mod, .int .i64 x0.No, .int .i64 x0.State.K, .int .i64 x0.State.N, .string x0.State.S, .slice sa7 sl7 sc7, .slice sa8 sl8 sc8]] V fun e w' => e = .returned (.bool true) ∧ Below V.heap.size V w') := fun V sa7 sl7 sc7 sa8 sl8 sc8 hV h => eqWorker_any d [.int .i64 x0.Pid, .string x0.Name, .string x0.Mod, .int .i64 x0.No, .int .i64 x0.State.K, .int .i64 x0.State.N, .string x0.State.S, .slice ra7 rl7 rc7, .slice ra8 rl8 rc8] [.int .i64 x0.Pid, .string x0.Name, .string x0.Mod, .int .i64 x0.No, .int .i64 x0.State.K, .int .i64 x0.State.N, .string x0.State.S, .slice sa7 sl7 sc7, .slice sa8 sl8 sc8] x0 V (WorkerO.reads d _ _ _ _ (HSG.out V (HC1.out.trans (hV.mono HC1.out.size))).1.1.1) h HF.out.1
  clear hb1 hS hK HGE hwlt
  have hY : Below V1.heap.size V1 V1.drew := (Below.refl _ _).drew
  go_wp2_with fail
  go_cut [58] (fun vv wx => vv = .bool false ∧ Hid (Below V1.heap.size V1 wx))
  case first =>
    go_region_held3 (fun V => V.cell? ⟨X1, 0, none⟩ = some (.int .i64 x0.Pid) ∧ V.cell? ⟨X1, 1, none⟩ = some (.string x0.Name) ∧ V.cell? ⟨X1, 2, none⟩ = some (.string x0.Mod) ∧ V.cell? ⟨X1, 3, none⟩ = some (.int .i64 x0.No) ∧ V.cell? ⟨X1, 4, none⟩ = some (.int .i64 x0.State.K) ∧ V.cell? ⟨X1, 5, none⟩ = some (.int .i64 x0.State.N) ∧ V.cell? ⟨X1, 6, none⟩ = some (.string x0.State.S) ∧ V.cell? ⟨X1, 7, none⟩ = some (.slice ra7 rl7 rc7) ∧ V.cell? ⟨X1, 8, none⟩ = some (.slice ra8 rl8 rc8) ∧ V.cell? ⟨w.heap.size, 0, none⟩ = some (.int .i64 x0.Pid) ∧ V.cell? ⟨w.heap.size, 1, none⟩ = some (.string x0.Name) ∧ V.cell? ⟨w.heap.size, 2, none⟩ = some (.string x0.Mod) ∧ V.cell? ⟨w.heap.size, 3, none⟩ = some (.int .i64 x0.No) ∧ V.cell? ⟨w.heap.size, 4, none⟩ = some (.int .i64 x0.State.K) ∧ V.cell? ⟨w.heap.size, 5, none⟩ = some (.int .i64 x0.State.N) ∧ V.cell? ⟨w.heap.size, 6, none⟩ = some (.string x0.State.S) ∧ V.cell? ⟨w.heap.size, 7, none⟩ = some (.slice pa7 pl7 pc7) ∧ V.cell? ⟨w.heap.size, 8, none⟩ = some (.slice pa8 pl8 pc8)) ((with_reducible exact HSK1.out _ hY)) (first
      | (go_at_call 8; (with_reducible refine (HTX.out _ HSD.out).mono ?_); rintro e V0 ⟨sa7, sl7, sc7, sa8, sl8, sc8, fp1, rfl, HO1, hB0⟩; have hY : Below V1.heap.size V1 V0 := hY.trans (hB0.mono hY.size); have HE0 : Hid (WorkerR d V0 [.int .i64 x0.Pid, .string x0.Name, .string x0.Mod, .int .i64 x0.No, .int .i64 x0.State.K, .int .i64 x0.State.N, .string x0.State.S, .slice sa7 sl7 sc7, .slice sa8 sl8 sc8] x0) := WorkerO.reads d _ _ _ _ HO1.out.1)
      | (go_at_call 10; (with_reducible refine (HEX.out _ sa7 sl7 sc7 sa8 sl8 sc8 hY HE0.out).mono ?_); rintro e V2 ⟨rfl, hB2⟩; have hY : Below V1.heap.size V1 V2 := hY.trans (hB2.mono hY.size)))
    all_goals
      have hbf : Hid (Below V1.heap.size V1 V2) := hY
      go_wp2_with fail
      go_meet
      case rel => exact ⟨rfl, hbf⟩
  case rest =>
  obtain ⟨hu, HB2⟩ := hcut
  obtain ⟨V2, hV2⟩ : ∃ w, w = wc := ⟨_, rfl⟩
  rw [← hV2] at HB2 ⊢
  rw [hu]
  have HC2 : Hid (Below G.heap.size G V2) := HC1.out.trans (HB2.out.mono HC1.out.size)
  clear hV2 hu HSK1 HSD HGD HEX hY HB2 HC1
  have HSK2 : Hid (∀ V : World, Below V2.heap.size V2 V → V.cell? ⟨X2, 0, none⟩ = some (.int .i64 k1) ∧ V.cell? ⟨X2, 1, none⟩ = some (.int .i64 n1) ∧ V.cell? ⟨X2, 2, none⟩ = some (.string s1) ∧ V.cell? ⟨X2, 3, none⟩ = some (.slice ua tn uac) ∧ V.cell? ⟨w.heap.size + 1, 0, none⟩ = some (.int .i64 k1) ∧ V.cell? ⟨w.heap.size + 1, 1, none⟩ = some (.int .i64 n1) ∧ V.cell? ⟨w.heap.size + 1, 2, none⟩ = some (.string s1) ∧ V.cell? ⟨w.heap.size + 1, 3, none⟩ = some (.slice ta tn tac)) := fun V hV => by
    have hS := HSG.out V (HC2.out.trans (hV.mono HC2.out.size))
    have hK := HKA.out V hS.1.1.2.2
    have hc := fun k => cell_of_row V X2 k _ _ _ hS.1.2.2
    have hd := fun k => cell_of_row V (w.heap.size + 1) k _ _ _ hK.2.1
    exact ⟨by rw [hc]; rfl, by rw [hc]; rfl, by rw [hc]; rfl, by rw [hc]; rfl, by rw [hd]; rfl, by rw [hd]; rfl, by rw [hd]; rfl, by rw [hd]; rfl⟩
  have HSD : Hid (Below w.heap.size w V2.drew) := (HKA.out V2 (HSG.out V2 HC2.out).1.1.2.2).2.2.2.2.drew
  have HET : Hid (∀ (V : World) (va : Option Addr) (vc : Nat), Below V2.heap.size V2 V → RdL d V (.slice va tn vc) t1 → Calls Try.prog 15 #[.agg #[.int .i64 k1, .int .i64 n1, .string s1, .slice ua tn uac], .agg #[.int .i64 k1, .int .i64 n1, .string s1, .slice va tn vc]] V fun e w' => e = .returned (.bool true) ∧ Below V.heap.size V w') := fun V va vc hV h => eqTerm_of d (eqTermS_any d) k1 n1 s1 (.slice ua tn uac) (.slice va tn vc) t1 V (HSG.out V (HC2.out.trans (hV.mono HC2.out.size))).1.2.1.rd h HF.out.2.1.2.2.2
  have hY : Below V2.heap.size V2 V2.drew := (Below.refl _ _).drew
  go_wp2_with fail
  go_cut [63] (fun vv wx => vv = .bool false ∧ Hid (Below V2.heap.size V2 wx))
  case first =>
    go_region_held3 (fun V => V.cell? ⟨X2, 0, none⟩ = some (.int .i64 k1) ∧ V.cell? ⟨X2, 1, none⟩ = some (.int .i64 n1) ∧ V.cell? ⟨X2, 2, none⟩ = some (.string s1) ∧ V.cell? ⟨X2, 3, none⟩ = some (.slice ua tn uac) ∧ V.cell? ⟨w.heap.size + 1, 0, none⟩ = some (.int .i64 k1) ∧ V.cell? ⟨w.heap.size + 1, 1, none⟩ = some (.int .i64 n1) ∧ V.cell? ⟨w.heap.size + 1, 2, none⟩ = some (.string s1) ∧ V.cell? ⟨w.heap.size + 1, 3, none⟩ = some (.slice ta tn tac)) ((with_reducible exact HSK2.out _ hY)) (first
      | (go_at_call 13; (with_reducible refine (HTT.out _ HSD.out).mono ?_); rintro e V0 ⟨va, vc, fp1, rfl, HO1, hB0⟩; have hY : Below V2.heap.size V2 V0 := hY.trans (hB0.mono hY.size); have HE0 : Hid (RdL d V0 (.slice va tn vc) t1) := HO1.out.1.rd)
      | (go_at_call 15; (with_reducible refine (HET.out _ va vc hY HE0.out).mono ?_); rintro e V3 ⟨rfl, hB2⟩; have hY : Below V2.heap.size V2 V3 := hY.trans (hB2.mono hY.size)))
    all_goals
      have hbf : Hid (Below V2.heap.size V2 V3) := hY
      go_wp2_with fail
      go_meet
      case rel => exact ⟨rfl, hbf⟩
  case rest =>
  obtain ⟨hu, HB3⟩ := hcut
  obtain ⟨V4, hV4⟩ : ∃ w, w = wc := ⟨_, rfl⟩
  rw [← hV4] at HB3 ⊢
  rw [hu]
  have HC4 : Hid (Below G.heap.size G V4) := HC2.out.trans (HB3.out.mono HC2.out.size)
  clear hV4 hu HSK2 HSD HET hY HB3 HC2
  obtain ⟨⟨⟨ox, nx, bA4⟩, ot, nu⟩, og, ng⟩ := HSG.out V4 HC4.out
  obtain ⟨N1, hN1⟩ : ∃ N, N = ckSWorker d x0 := ⟨_, rfl⟩
  have hN1b : N1 ≤ 10000000 := by rw [hN1]; have h1 := wk_cnt HZ.out; show 3 * cntL d x0.State.L + (3 * cntL (d + 1) x0.Box) ≤ _; omega
  have hGV4 : G.heap.size ≤ V4.heap.size := HC4.out.size
  have hM := markWorker_any d [.int .i64 x0.Pid, .string x0.Name, .string x0.Mod, .int .i64 x0.No, .int .i64 x0.State.K, .int .i64 x0.State.N, .string x0.State.S, .slice ra7 rl7 rc7, .slice ra8 rl8 rc8] x0 fpx 1 V4 ox HFX.out.1 (fun g hg => by have := HFX.out.2.1 g hg; have := HFX.out; have := HFT.out; have := HFG.out; omega) (by omega) (by rw [← hN1]; omega)
  rw [← hN1] at hM
  have c0 : V4.cell? ⟨X1, 0, none⟩ = some (.int .i64 x0.Pid) := by rw [cell_of_row V4 _ 0 _ _ _ nx]; rfl
  have c1 : V4.cell? ⟨X1, 1, none⟩ = some (.string x0.Name) := by rw [cell_of_row V4 _ 1 _ _ _ nx]; rfl
  have c2 : V4.cell? ⟨X1, 2, none⟩ = some (.string x0.Mod) := by rw [cell_of_row V4 _ 2 _ _ _ nx]; rfl
  have c3 : V4.cell? ⟨X1, 3, none⟩ = some (.int .i64 x0.No) := by rw [cell_of_row V4 _ 3 _ _ _ nx]; rfl
  have c4 : V4.cell? ⟨X1, 4, none⟩ = some (.int .i64 x0.State.K) := by rw [cell_of_row V4 _ 4 _ _ _ nx]; rfl
  have c5 : V4.cell? ⟨X1, 5, none⟩ = some (.int .i64 x0.State.N) := by rw [cell_of_row V4 _ 5 _ _ _ nx]; rfl
  have c6 : V4.cell? ⟨X1, 6, none⟩ = some (.string x0.State.S) := by rw [cell_of_row V4 _ 6 _ _ _ nx]; rfl
  have c7 : V4.cell? ⟨X1, 7, none⟩ = some (.slice ra7 rl7 rc7) := by rw [cell_of_row V4 _ 7 _ _ _ nx]; rfl
  have c8 : V4.cell? ⟨X1, 8, none⟩ = some (.slice ra8 rl8 rc8) := by rw [cell_of_row V4 _ 8 _ _ _ nx]; rfl
  have HV4 : Hid (Below A.heap.size A V4 ∧ OwnL d V4 (.slice ua tn uac) t1 fpt ∧ V4.heap[X2]? = some (.cells #[.int .i64 k1, .int .i64 n1, .string s1, .slice ua tn uac] 31 (0, 0)) ∧ WorkerO (d + 1) V4 [.int .i64 y.Pid, .string y.Name, .string y.Mod, .int .i64 y.No, .int .i64 gK, .int .i64 gN, .string gS, .slice ga7 gl7 gc7, .slice ga8 gl8 gc8] (upW y) fpg ∧ V4.heap[XG]? = some (.cells #[.int .i64 y.Pid, .string y.Name, .string y.Mod, .int .i64 y.No, .int .i64 gK, .int .i64 gN, .string gS, .slice ga7 gl7 gc7, .slice ga8 gl8 gc8] 33 (0, 0))) := ⟨bA4, ot, nu, og, ng⟩
  clear ox nx bA4 ot nu og ng HC4 HSG hN1
  go_wp2_with fail
  refine hM.mono ?_
  clear hM c0 c1 c2 c3 c4 c5 c6 c7 c8
  rintro e M0 ⟨rfl, _, hWr⟩
  have HM0 : Hid (Below A.heap.size A M0 ∧ OwnL d M0 (.slice ua tn uac) t1 fpt ∧ M0.heap[X2]? = some (.cells #[.int .i64 k1, .int .i64 n1, .string s1, .slice ua tn uac] 31 (0, 0)) ∧ WorkerO (d + 1) M0 [.int .i64 y.Pid, .string y.Name, .string y.Mod, .int .i64 y.No, .int .i64 gK, .int .i64 gN, .string gS, .slice ga7 gl7 gc7, .slice ga8 gl8 gc8] (upW y) fpg ∧ M0.heap[XG]? = some (.cells #[.int .i64 y.Pid, .string y.Name, .string y.Mod, .int .i64 y.No, .int .i64 gK, .int .i64 gN, .string gS, .slice ga7 gl7 gc7, .slice ga8 gl8 gc8] 33 (0, 0))) := by
    have z1 := HFX.out
    have z2 := HFT.out
    have z3 := HFG.out
    obtain ⟨k1', k2, ku, k3, k4⟩ := HV4.out
    refine ⟨k1'.trans ⟨hWr.os, hWr.tape, hWr.output, hWr.size, fun g hg => hWr.block g (by have := k1'.size; omega) fun h => by have := z1.2.1 g h; omega⟩, k2.frame fun g hg => hWr.block g (by have := z2.2.1 g hg; omega) fun h => by have := z1.2.1 g h; have := z2.2.1 g hg; omega, (hWr.block _ (by omega) fun h => by have := z1.2.1 _ h; omega).trans ku, WorkerO.lasts (d + 1) _ _ _ _ _ k3 fun g hg => hWr.block g (by have := z3.2.1 g hg; omega) fun h => by have := z1.2.1 g h; have := z3.2.1 g hg; omega, (hWr.block _ (by omega) fun h => by have := z1.2.1 _ h; omega).trans k4⟩
  have hM0s : XG < M0.heap.size := lt_row HM0.out.2.2.2.2
  have hM0z : G.heap.size ≤ M0.heap.size := Nat.le_trans hGV4 hWr.size
  clear hWr HV4 hGV4
  obtain ⟨N2, hN2⟩ : ∃ N, N = cntL d t1 := ⟨_, rfl⟩
  have hN2b : N2 ≤ 1048576 := by rw [hN2]; exact HCT.out
  have hM := markTerm_of d k1 n1 s1 ua tn uac t1 fpt (1 + (N1 : Nat)) M0 HM0.out.2.1 HFT.out.1 (by omega) (by rw [← hN2]; omega)
  rw [← hN2] at hM
  obtain ⟨K1, hK1⟩ : ∃ K : Int, (1 + (N1 : Nat) : Int) = K := ⟨_, rfl⟩
  obtain ⟨K2, hK2⟩ : ∃ K : Int, (K1 + 3 * (N2 : Nat) : Int) = K := ⟨_, rfl⟩
  rw [hK1] at hM ⊢
  rw [hK2] at hM
  have hK2p : ¬ K2 < 0 := by omega
  have hU := HM0.out.2.2.1
  have c0 : M0.cell? ⟨X2, 0, none⟩ = some (.int .i64 k1) := by rw [cell_of_row M0 _ 0 _ _ _ hU]; rfl
  have c1 : M0.cell? ⟨X2, 1, none⟩ = some (.int .i64 n1) := by rw [cell_of_row M0 _ 1 _ _ _ hU]; rfl
  have c2 : M0.cell? ⟨X2, 2, none⟩ = some (.string s1) := by rw [cell_of_row M0 _ 2 _ _ _ hU]; rfl
  have c3 : M0.cell? ⟨X2, 3, none⟩ = some (.slice ua tn uac) := by rw [cell_of_row M0 _ 3 _ _ _ hU]; rfl
  clear hK1 hK2 hN2 hU
  go_wp2_with fail
  refine hM.mono ?_
  clear hM c0 c1 c2 c3
  rintro e M1 ⟨rfl, _, hWr⟩
  have HM1 : Hid (Below A.heap.size A M1 ∧ WorkerO (d + 1) M1 [.int .i64 y.Pid, .string y.Name, .string y.Mod, .int .i64 y.No, .int .i64 gK, .int .i64 gN, .string gS, .slice ga7 gl7 gc7, .slice ga8 gl8 gc8] (upW y) fpg ∧ M1.heap[XG]? = some (.cells #[.int .i64 y.Pid, .string y.Name, .string y.Mod, .int .i64 y.No, .int .i64 gK, .int .i64 gN, .string gS, .slice ga7 gl7 gc7, .slice ga8 gl8 gc8] 33 (0, 0))) := by
    have z1 := HFX.out
    have z2 := HFT.out
    have z3 := HFG.out
    obtain ⟨k1', k2, ku, k3, k4⟩ := HM0.out
    refine ⟨k1'.trans ⟨hWr.os, hWr.tape, hWr.output, hWr.size, fun g hg => hWr.block g (by have := k1'.size; omega) fun h => by have := z2.2.1 g h; omega⟩, WorkerO.lasts (d + 1) _ _ _ _ _ k3 fun g hg => hWr.block g (by have := z3.2.1 g hg; omega) fun h => by have := z2.2.1 g h; have := z3.2.1 g hg; omega, (hWr.block _ (by omega) fun h => by have := z2.2.1 _ h; omega).trans k4⟩
  clear hWr HM0 hM0s hM0z
  have gM := HM1.out.2.2
  have wM := (HKA.out M1 HM1.out.1).2.2.1
  have hC := eqWorker_any (d + 1) [.int .i64 y.Pid, .string y.Name, .string y.Mod, .int .i64 y.No, .int .i64 gK, .int .i64 gN, .string gS, .slice ga7 gl7 gc7, .slice ga8 gl8 gc8] [.int .i64 y.Pid, .string y.Name, .string y.Mod, .int .i64 y.No, .int .i64 wK, .int .i64 wN, .string wS, .slice wa7 wl7 wc7, .slice wa8 wl8 wc8] (upW y) M1 (WorkerO.reads (d + 1) _ _ _ _ HM1.out.2.1) (HKA.out M1 HM1.out.1).2.2.2.1 HWF.out
  have c0 : M1.cell? ⟨XG, 0, none⟩ = some (.int .i64 y.Pid) := by rw [cell_of_row M1 _ 0 _ _ _ gM]; rfl
  have c1 : M1.cell? ⟨XG, 1, none⟩ = some (.string y.Name) := by rw [cell_of_row M1 _ 1 _ _ _ gM]; rfl
  have c2 : M1.cell? ⟨XG, 2, none⟩ = some (.string y.Mod) := by rw [cell_of_row M1 _ 2 _ _ _ gM]; rfl
  have c3 : M1.cell? ⟨XG, 3, none⟩ = some (.int .i64 y.No) := by rw [cell_of_row M1 _ 3 _ _ _ gM]; rfl
  have c4 : M1.cell? ⟨XG, 4, none⟩ = some (.int .i64 gK) := by rw [cell_of_row M1 _ 4 _ _ _ gM]; rfl
  have c5 : M1.cell? ⟨XG, 5, none⟩ = some (.int .i64 gN) := by rw [cell_of_row M1 _ 5 _ _ _ gM]; rfl
  have c6 : M1.cell? ⟨XG, 6, none⟩ = some (.string gS) := by rw [cell_of_row M1 _ 6 _ _ _ gM]; rfl
  have c7 : M1.cell? ⟨XG, 7, none⟩ = some (.slice ga7 gl7 gc7) := by rw [cell_of_row M1 _ 7 _ _ _ gM]; rfl
  have c8 : M1.cell? ⟨XG, 8, none⟩ = some (.slice ga8 gl8 gc8) := by rw [cell_of_row M1 _ 8 _ _ _ gM]; rfl
  have e0 : M1.cell? ⟨XW, 0, none⟩ = some (.int .i64 y.Pid) := by rw [cell_of_row M1 _ 0 _ _ _ wM]; rfl
  have e1 : M1.cell? ⟨XW, 1, none⟩ = some (.string y.Name) := by rw [cell_of_row M1 _ 1 _ _ _ wM]; rfl
  have e2 : M1.cell? ⟨XW, 2, none⟩ = some (.string y.Mod) := by rw [cell_of_row M1 _ 2 _ _ _ wM]; rfl
  have e3 : M1.cell? ⟨XW, 3, none⟩ = some (.int .i64 y.No) := by rw [cell_of_row M1 _ 3 _ _ _ wM]; rfl
  have e4 : M1.cell? ⟨XW, 4, none⟩ = some (.int .i64 wK) := by rw [cell_of_row M1 _ 4 _ _ _ wM]; rfl
  have e5 : M1.cell? ⟨XW, 5, none⟩ = some (.int .i64 wN) := by rw [cell_of_row M1 _ 5 _ _ _ wM]; rfl
  have e6 : M1.cell? ⟨XW, 6, none⟩ = some (.string wS) := by rw [cell_of_row M1 _ 6 _ _ _ wM]; rfl
  have e7 : M1.cell? ⟨XW, 7, none⟩ = some (.slice wa7 wl7 wc7) := by rw [cell_of_row M1 _ 7 _ _ _ wM]; rfl
  have e8 : M1.cell? ⟨XW, 8, none⟩ = some (.slice wa8 wl8 wc8) := by rw [cell_of_row M1 _ 8 _ _ _ wM]; rfl
  clear gM wM
  go_wp2_with fail
  refine hC.mono ?_
  clear hC c0 c1 c2 c3 c4 c5 c6 c7 c8 e0 e1 e2 e3 e4 e5 e6 e7 e8
  rintro e V5 ⟨rfl, hb5⟩
  have HV5 : Hid (Below A.heap.size A V5 ∧ WorkerO (d + 1) V5 [.int .i64 y.Pid, .string y.Name, .string y.Mod, .int .i64 y.No, .int .i64 gK, .int .i64 gN, .string gS, .slice ga7 gl7 gc7, .slice ga8 gl8 gc8] (upW y) fpg ∧ V5.heap[XG]? = some (.cells #[.int .i64 y.Pid, .string y.Name, .string y.Mod, .int .i64 y.No, .int .i64 gK, .int .i64 gN, .string gS, .slice ga7 gl7 gc7, .slice ga8 gl8 gc8] 33 (0, 0))) := by
    have hs := lt_row HM1.out.2.2
    have z3 := HFG.out
    exact ⟨HM1.out.1.trans (hb5.mono HM1.out.1.size), WorkerO.lasts (d + 1) _ _ _ _ _ HM1.out.2.1 fun g hg => hb5.block g (by have := z3.2.1 g hg; omega), (hb5.block _ hs).trans HM1.out.2.2⟩
  have hV5s : XG < V5.heap.size := lt_row HV5.out.2.2
  clear hb5 HM1
  obtain ⟨N3, hN3⟩ : ∃ N, N = ckSWorker (d + 1) (upW y) := ⟨_, rfl⟩
  have hN3b : N3 ≤ 10000000 := by rw [hN3]; exact HCK.out
  have HN3 : Hid (N3 = ckSWorker (d + 1) (upW y)) := hN3
  have hM := markWorker_any (d + 1) [.int .i64 y.Pid, .string y.Name, .string y.Mod, .int .i64 y.No, .int .i64 gK, .int .i64 gN, .string gS, .slice ga7 gl7 gc7, .slice ga8 gl8 gc8] (upW y) fpg 1 V5 HV5.out.2.1 HFG.out.1 (fun g hg => by have := HFG.out.2.1 g hg; omega) (by omega) (by rw [← hN3]; omega)
  rw [← hN3] at hM
  obtain ⟨K3, hK3⟩ : ∃ K : Int, (1 + (N3 : Nat) : Int) = K := ⟨_, rfl⟩
  have HK3 : Hid ((1 + (N3 : Nat) : Int) = K3) := hK3
  rw [hK3] at hM
  have hK3p : ¬ K3 < 0 := by omega
  have hK3n : (K3 != K3) = false := by simp
  have gV := HV5.out.2.2
  have c0 : V5.cell? ⟨XG, 0, none⟩ = some (.int .i64 y.Pid) := by rw [cell_of_row V5 _ 0 _ _ _ gV]; rfl
  have c1 : V5.cell? ⟨XG, 1, none⟩ = some (.string y.Name) := by rw [cell_of_row V5 _ 1 _ _ _ gV]; rfl
  have c2 : V5.cell? ⟨XG, 2, none⟩ = some (.string y.Mod) := by rw [cell_of_row V5 _ 2 _ _ _ gV]; rfl
  have c3 : V5.cell? ⟨XG, 3, none⟩ = some (.int .i64 y.No) := by rw [cell_of_row V5 _ 3 _ _ _ gV]; rfl
  have c4 : V5.cell? ⟨XG, 4, none⟩ = some (.int .i64 gK) := by rw [cell_of_row V5 _ 4 _ _ _ gV]; rfl
  have c5 : V5.cell? ⟨XG, 5, none⟩ = some (.int .i64 gN) := by rw [cell_of_row V5 _ 5 _ _ _ gV]; rfl
  have c6 : V5.cell? ⟨XG, 6, none⟩ = some (.string gS) := by rw [cell_of_row V5 _ 6 _ _ _ gV]; rfl
  have c7 : V5.cell? ⟨XG, 7, none⟩ = some (.slice ga7 gl7 gc7) := by rw [cell_of_row V5 _ 7 _ _ _ gV]; rfl
  have c8 : V5.cell? ⟨XG, 8, none⟩ = some (.slice ga8 gl8 gc8) := by rw [cell_of_row V5 _ 8 _ _ _ gV]; rfl
  clear hN3 hK3 gV
  go_wp2_with fail
  refine hM.mono ?_
  clear hM c0 c1 c2 c3 c4 c5 c6 c7 c8
  rintro e M2 ⟨rfl, om, hWr⟩
  have HM2 : Hid (∀ V : World, Below M2.heap.size M2 V → Below A.heap.size A V ∧ WorkerR (d + 1) V [.int .i64 y.Pid, .string y.Name, .string y.Mod, .int .i64 y.No, .int .i64 gK, .int .i64 gN, .string gS, .slice ga7 gl7 gc7, .slice ga8 gl8 gc8] (mkSWorker (d + 1) 1 (upW y)) ∧ V.heap[XG]? = some (.cells #[.int .i64 y.Pid, .string y.Name, .string y.Mod, .int .i64 y.No, .int .i64 gK, .int .i64 gN, .string gS, .slice ga7 gl7 gc7, .slice ga8 gl8 gc8] 33 (0, 0))) := fun V hV => by
    have z1 := HFX.out
    have z2 := HFT.out
    have z3 := HFG.out
    obtain ⟨k1', k2, k3⟩ := HV5.out
    have j1 : Below A.heap.size A M2 := k1'.trans ⟨hWr.os, hWr.tape, hWr.output, hWr.size, fun g hg => hWr.block g (by have := k1'.size; omega) fun h => by have := z3.2.1 g h; omega⟩
    have j3 := (hWr.block _ hV5s fun h => by have := z3.2.1 _ h; omega).trans k3
    exact ⟨j1.trans (hV.mono j1.size), WorkerR.lasts (d + 1) _ _ _ _ (WorkerO.reads (d + 1) _ _ _ _ om) hV, (hV.block _ (lt_row j3)).trans j3⟩
  have HHD : Hid (∀ V : World, Below M2.heap.size M2 V → Calls Try.prog 18 #[.agg #[.int .i64 y.Pid, .string y.Name, .string y.Mod, .int .i64 y.No, .int .i64 gK, .int .i64 gN, .string gS, .slice ga7 gl7 gc7, .slice ga8 gl8 gc8], .int .i64 1] V fun e w' => e = .returned (.int .i64 K3) ∧ Below V.heap.size V w') := fun V hV => by
    have := heldWorker_any (d + 1) [.int .i64 y.Pid, .string y.Name, .string y.Mod, .int .i64 y.No, .int .i64 gK, .int .i64 gN, .string gS, .slice ga7 gl7 gc7, .slice ga8 gl8 gc8] (upW y) 1 V (HM2.out V hV).2.1 (by omega) (by rw [← HN3.out]; omega)
    rw [← HN3.out, HK3.out] at this
    exact this
  clear om hWr HV5 hV5s
  have gV := (HM2.out M2 (Below.refl M2.heap.size M2)).2.2
  have c0 : M2.cell? ⟨XG, 0, none⟩ = some (.int .i64 y.Pid) := by rw [cell_of_row M2 _ 0 _ _ _ gV]; rfl
  have c1 : M2.cell? ⟨XG, 1, none⟩ = some (.string y.Name) := by rw [cell_of_row M2 _ 1 _ _ _ gV]; rfl
  have c2 : M2.cell? ⟨XG, 2, none⟩ = some (.string y.Mod) := by rw [cell_of_row M2 _ 2 _ _ _ gV]; rfl
  have c3 : M2.cell? ⟨XG, 3, none⟩ = some (.int .i64 y.No) := by rw [cell_of_row M2 _ 3 _ _ _ gV]; rfl
  have c4 : M2.cell? ⟨XG, 4, none⟩ = some (.int .i64 gK) := by rw [cell_of_row M2 _ 4 _ _ _ gV]; rfl
  have c5 : M2.cell? ⟨XG, 5, none⟩ = some (.int .i64 gN) := by rw [cell_of_row M2 _ 5 _ _ _ gV]; rfl
  have c6 : M2.cell? ⟨XG, 6, none⟩ = some (.string gS) := by rw [cell_of_row M2 _ 6 _ _ _ gV]; rfl
  have c7 : M2.cell? ⟨XG, 7, none⟩ = some (.slice ga7 gl7 gc7) := by rw [cell_of_row M2 _ 7 _ _ _ gV]; rfl
  have c8 : M2.cell? ⟨XG, 8, none⟩ = some (.slice ga8 gl8 gc8) := by rw [cell_of_row M2 _ 8 _ _ _ gV]; rfl
  clear gV
  go_wp2_with fail
  refine (HHD.out M2 (Below.refl M2.heap.size M2)).mono ?_
  clear c0 c1 c2 c3 c4 c5 c6 c7 c8
  rintro e V6 ⟨rfl, hb6⟩
  have HC6 : Hid (Below M2.heap.size M2 V6) := hb6
  have HXY6 : Hid (∀ V : World, Below V6.heap.size V6 V → Below w.heap.size w V ∧ V.heap[w.heap.size]? = some (.cells #[.int .i64 x0.Pid, .string x0.Name, .string x0.Mod, .int .i64 x0.No, .int .i64 x0.State.K, .int .i64 x0.State.N, .string x0.State.S, .slice pa7 pl7 pc7, .slice pa8 pl8 pc8] 26 (0, 0)) ∧ V.heap[w.heap.size + 1]? = some (.cells #[.int .i64 k1, .int .i64 n1, .string s1, .slice ta tn tac] 24 (0, 0))) := fun V hV => by
    obtain ⟨h1, h2, _, _, h5⟩ := HKA.out V (HM2.out V (HC6.out.trans (hV.mono HC6.out.size))).1
    exact ⟨h5, h1, h2⟩
  clear hb6
  have HXY : Hid (∀ V : World, Below V6.heap.size V6 V → Below w.heap.size w V) := fun V hV => (HXY6.out V hV).1
  have HSK : Hid (∀ V : World, Below V6.heap.size V6 V → V.cell? ⟨w.heap.size, 0, none⟩ = some (.int .i64 x0.Pid) ∧ V.cell? ⟨w.heap.size, 1, none⟩ = some (.string x0.Name) ∧ V.cell? ⟨w.heap.size, 2, none⟩ = some (.string x0.Mod) ∧ V.cell? ⟨w.heap.size, 3, none⟩ = some (.int .i64 x0.No) ∧ V.cell? ⟨w.heap.size, 4, none⟩ = some (.int .i64 x0.State.K) ∧ V.cell? ⟨w.heap.size, 5, none⟩ = some (.int .i64 x0.State.N) ∧ V.cell? ⟨w.heap.size, 6, none⟩ = some (.string x0.State.S) ∧ V.cell? ⟨w.heap.size, 7, none⟩ = some (.slice pa7 pl7 pc7) ∧ V.cell? ⟨w.heap.size, 8, none⟩ = some (.slice pa8 pl8 pc8) ∧ V.cell? ⟨w.heap.size + 1, 0, none⟩ = some (.int .i64 k1) ∧ V.cell? ⟨w.heap.size + 1, 1, none⟩ = some (.int .i64 n1) ∧ V.cell? ⟨w.heap.size + 1, 2, none⟩ = some (.string s1) ∧ V.cell? ⟨w.heap.size + 1, 3, none⟩ = some (.slice ta tn tac)) := fun V hV => by
    obtain ⟨_, hP, hT⟩ := HXY6.out V hV
    have hc := fun k => cell_of_row V w.heap.size k _ _ _ hP
    have hd := fun k => cell_of_row V (w.heap.size + 1) k _ _ _ hT
    exact ⟨by rw [hc]; rfl, by rw [hc]; rfl, by rw [hc]; rfl, by rw [hc]; rfl, by rw [hc]; rfl, by rw [hc]; rfl, by rw [hc]; rfl, by rw [hc]; rfl, by rw [hc]; rfl, by rw [hd]; rfl, by rw [hd]; rfl, by rw [hd]; rfl, by rw [hd]; rfl⟩
  have HSI : Hid (∀ (V : World) (sa7 : Option Addr) (sl7 sc7 : Nat) (sa8 : Option Addr) (sl8 sc8 : Nat) (va : Option Addr) (vc : Nat), (WorkerR d V [.int .i64 x0.Pid, .string x0.Name, .string x0.Mod, .int .i64 x0.No, .int .i64 x0.State.K, .int .i64 x0.State.N, .string x0.State.S, .slice sa7 sl7 sc7, .slice sa8 sl8 sc8] x0 ∧ RdQ d V (.slice sa7 sl7 sc7) x0.State.L ∧ RdQ (d + 1) V (.slice sa8 sl8 sc8) x0.Box) → (RdQ d V (.slice va tn vc) t1 ∧ RdL d V (.slice va tn vc) t1) → Calls Try.prog 14 #[.agg #[.int .i64 x0.Pid, .string x0.Name, .string x0.Mod, .int .i64 x0.No, .int .i64 x0.State.K, .int .i64 x0.State.N, .string x0.State.S, .slice sa7 sl7 sc7, .slice sa8 sl8 sc8], .agg #[.int .i64 k1, .int .i64 n1, .string s1, .slice va tn vc]] V fun e w' => ∃ (hK hN : Int) (hS : ByteArray) (ha7 ha8 : Option Addr) (hl7 hc7 hl8 hc8 : Nat) (fp : List Nat), e = .returned (.tuple #[.agg #[.int .i64 y.Pid, .string y.Name, .string y.Mod, .int .i64 y.No, .int .i64 hK, .int .i64 hN, .string hS, .slice ha7 hl7 hc7, .slice ha8 hl8 hc8], .bool ok]) ∧ Hid (WorkerO (d + 1) w' [.int .i64 y.Pid, .string y.Name, .string y.Mod, .int .i64 y.No, .int .i64 hK, .int .i64 hN, .string hS, .slice ha7 hl7 hc7, .slice ha8 hl8 hc8] (upW y) fp ∧ Fresh V.heap.size w' fp) ∧ Below V.heap.size V w') := fun V sa7 sl7 sc7 sa8 sl8 sc8 va vc h1 h2 => by
    refine (implPutWord_any d x0 (mkT k1 n1 s1 t1) sa7 sa8 va sl7 sc7 sl8 sc8 tn vc V h1.1 h1.2.1 h1.2.2 h2.1 h2.2 HF.out.1 HZ.out HF.out.2.1 HCT.out).mono ?_
    rintro e w' ⟨y3, ok3, hK, hN, hS, ha7, ha8, hl7, hc7, hl8, hc8, fp, rfl, HV3, hb⟩
    obtain ⟨rfl, rfl⟩ := HVT.out.same HV3.out.1
    exact ⟨hK, hN, hS, ha7, ha8, hl7, hc7, hl8, hc8, fp, rfl, HV3.out.2, hb⟩
  have hY : Below V6.heap.size V6 V6.drew := (Below.refl _ _).drew
  go_wp2_with fail
  go_cut [15, 16] (fun v6 v7 wx => ∃ (b : Nat) (hK hN : Int) (hS : ByteArray) (ha7 ha8 : Option Addr) (hl7 hc7 hl8 hc8 : Nat), v6 = .pointer (some ⟨b, 0, none⟩) ∧ v7 = .bool ok ∧ Hid (WorkerR (d + 1) wx [.int .i64 y.Pid, .string y.Name, .string y.Mod, .int .i64 y.No, .int .i64 hK, .int .i64 hN, .string hS, .slice ha7 hl7 hc7, .slice ha8 hl8 hc8] (upW y) ∧ wx.heap[b]? = some (.cells #[.int .i64 y.Pid, .string y.Name, .string y.Mod, .int .i64 y.No, .int .i64 hK, .int .i64 hN, .string hS, .slice ha7 hl7 hc7, .slice ha8 hl8 hc8] 33 (0, 0)) ∧ Below V6.heap.size V6 wx))
  case first =>
    go_region_held3 (fun V => V.cell? ⟨w.heap.size, 0, none⟩ = some (.int .i64 x0.Pid) ∧ V.cell? ⟨w.heap.size, 1, none⟩ = some (.string x0.Name) ∧ V.cell? ⟨w.heap.size, 2, none⟩ = some (.string x0.Mod) ∧ V.cell? ⟨w.heap.size, 3, none⟩ = some (.int .i64 x0.No) ∧ V.cell? ⟨w.heap.size, 4, none⟩ = some (.int .i64 x0.State.K) ∧ V.cell? ⟨w.heap.size, 5, none⟩ = some (.int .i64 x0.State.N) ∧ V.cell? ⟨w.heap.size, 6, none⟩ = some (.string x0.State.S) ∧ V.cell? ⟨w.heap.size, 7, none⟩ = some (.slice pa7 pl7 pc7) ∧ V.cell? ⟨w.heap.size, 8, none⟩ = some (.slice pa8 pl8 pc8) ∧ V.cell? ⟨w.heap.size + 1, 0, none⟩ = some (.int .i64 k1) ∧ V.cell? ⟨w.heap.size + 1, 1, none⟩ = some (.int .i64 n1) ∧ V.cell? ⟨w.heap.size + 1, 2, none⟩ = some (.string s1) ∧ V.cell? ⟨w.heap.size + 1, 3, none⟩ = some (.slice ta tn tac)) (first | (with_reducible exact HSK.out _ hY) | (with_reducible exact HSK.out _ (hY.alloc hY.size _)) | (with_reducible exact HSK.out _ (hY.alloc hY.size _).drew) | (with_reducible exact HSK.out _ ((Below.refl V6.heap.size V6).alloc (Nat.le_refl _) _).drew) | (with_reducible exact HSK.out _ ((Below.refl V6.heap.size V6).alloc (Nat.le_refl _) _)) | (with_reducible exact HSK.out _ (below9 hY (Nat.le_refl _) _ _ _ _ _ _ _ _ _)) | (with_reducible exact HSK.out _ (below9 hY hn0 _ _ _ _ _ _ _ _ _)) | (with_reducible exact HSK.out _ (below9 hY hn1 _ _ _ _ _ _ _ _ _))) (first
      | (go_at_call 8; (with_reducible refine (HTX.out _ (HXY.out _ (by first | (with_reducible exact hY) | (with_reducible exact (hY.alloc hY.size _)) | (with_reducible exact (hY.alloc hY.size _).drew) | (with_reducible exact ((Below.refl V6.heap.size V6).alloc (Nat.le_refl _) _).drew) | (with_reducible exact ((Below.refl V6.heap.size V6).alloc (Nat.le_refl _) _))))).mono ?_); rintro e V0 ⟨sa7, sl7, sc7, sa8, sl8, sc8, fp1, rfl, HO1, hB0⟩; have HE0 : Hid (∀ V : World, Below V0.heap.size V0 V → WorkerR d V [.int .i64 x0.Pid, .string x0.Name, .string x0.Mod, .int .i64 x0.No, .int .i64 x0.State.K, .int .i64 x0.State.N, .string x0.State.S, .slice sa7 sl7 sc7, .slice sa8 sl8 sc8] x0 ∧ RdQ d V (.slice sa7 sl7 sc7) x0.State.L ∧ RdQ (d + 1) V (.slice sa8 sl8 sc8) x0.Box) := fun V hV => ⟨WorkerR.lasts d _ _ _ _ (WorkerO.reads d _ _ _ _ HO1.out.1) hV, (WorkerO.rdqs HO1.out.1).1.later hV, (WorkerO.rdqs HO1.out.1).2.later hV⟩; (try (have hbx := (hB0.block _ (lt_row hbx)).trans hbx)); (try (have hbx := (hB0.block _ (by simp)).trans (heap_alloc_new _ _))); have hY : Below V6.heap.size V6 V0 := (by first | exact hY.trans (hB0.mono hY.size) | exact (hY.alloc hY.size _).trans (hB0.mono (hY.alloc hY.size _).size) | exact (hY.alloc hY.size _).drew.trans (hB0.mono (hY.alloc hY.size _).drew.size) | exact ((Below.refl V6.heap.size V6).alloc (Nat.le_refl _) _).drew.trans (hB0.mono ((Below.refl V6.heap.size V6).alloc (Nat.le_refl _) _).drew.size) | exact ((Below.refl V6.heap.size V6).alloc (Nat.le_refl _) _).trans (hB0.mono ((Below.refl V6.heap.size V6).alloc (Nat.le_refl _) _).size)); have hn0 := hY.size)
      | (go_at_call 13; (with_reducible refine (HTT.out _ (HXY.out _ (by first | (with_reducible exact hY) | (with_reducible exact (hY.alloc hY.size _)) | (with_reducible exact (hY.alloc hY.size _).drew) | (with_reducible exact ((Below.refl V6.heap.size V6).alloc (Nat.le_refl _) _).drew) | (with_reducible exact ((Below.refl V6.heap.size V6).alloc (Nat.le_refl _) _))))).mono ?_); rintro e V1 ⟨va, vc, fp2, rfl, HO2, hB1⟩; have HE1 : Hid (∀ V : World, Below V1.heap.size V1 V → RdQ d V (.slice va tn vc) t1 ∧ RdL d V (.slice va tn vc) t1) := fun V hV => ⟨HO2.out.1.rdq.later hV, HO2.out.1.rd.later hV⟩; (try (have hbx := (hB1.block _ (lt_row hbx)).trans hbx)); (try (have hbx := (hB1.block _ (by simp)).trans (heap_alloc_new _ _))); have hY : Below V6.heap.size V6 V1 := (by first | exact hY.trans (hB1.mono hY.size) | exact (hY.alloc hY.size _).trans (hB1.mono (hY.alloc hY.size _).size) | exact (hY.alloc hY.size _).drew.trans (hB1.mono (hY.alloc hY.size _).drew.size) | exact ((Below.refl V6.heap.size V6).alloc (Nat.le_refl _) _).drew.trans (hB1.mono ((Below.refl V6.heap.size V6).alloc (Nat.le_refl _) _).drew.size) | exact ((Below.refl V6.heap.size V6).alloc (Nat.le_refl _) _).trans (hB1.mono ((Below.refl V6.heap.size V6).alloc (Nat.le_refl _) _).size)); have hn1 := hY.size)
      | (go_at_call 14; (with_reducible refine (HSI.out _ sa7 sl7 sc7 sa8 sl8 sc8 va vc (by first | exact HE0.out _ hB1 | exact HE0.out _ (((Below.refl _ _).alloc (Nat.le_refl _) _).trans (hB1.mono (by simp))) | exact HE0.out _ (hB1.alloc hB1.size _)) (by first | exact HE1.out _ (Below.refl V1.heap.size V1) | exact HE1.out _ ((Below.refl V1.heap.size V1).alloc (Nat.le_refl _) _))).mono ?_); rintro e V2 ⟨hK, hN, hS, ha7, ha8, hl7, hc7, hl8, hc8, fph, rfl, HVV, hB2⟩; (try (have hbx := (hB2.block _ (lt_row hbx)).trans hbx)); (try (have hbx := (hB2.block _ (by simp)).trans (heap_alloc_new _ _))); have hY : Below V6.heap.size V6 V2 := (by first | exact hY.trans (hB2.mono hY.size) | exact (hY.alloc hY.size _).trans (hB2.mono (hY.alloc hY.size _).size) | exact (hY.alloc hY.size _).drew.trans (hB2.mono (hY.alloc hY.size _).drew.size) | exact ((Below.refl V6.heap.size V6).alloc (Nat.le_refl _) _).drew.trans (hB2.mono ((Below.refl V6.heap.size V6).alloc (Nat.le_refl _) _).drew.size) | exact ((Below.refl V6.heap.size V6).alloc (Nat.le_refl _) _).trans (hB2.mono ((Below.refl V6.heap.size V6).alloc (Nat.le_refl _) _).size)); have hn2 := hY.size; (try (have hq4 := box9 hbx; obtain ⟨⟨e0, e1, e2, e3, e4, e5, e6, e7, e8⟩, z0, z1, z2, z3, z4, z5, z6, z7, z8⟩ := hq4))))
    all_goals
      first
      | (have hq : V2.heap[V1.heap.size]? = some (.cells #[.int .i64 0, .string ⟨#[]⟩, .string ⟨#[]⟩, .int .i64 0, .int .i64 0, .int .i64 0, .string ⟨#[]⟩, .slice none 0 0, .slice none 0 0] 33 (0, 0)) := by with_reducible exact hbx
         clear e0 e1 e2 e3 e4 e5 e6 e7 e8 z0 z1 z2 z3 z4 z5 z6 z7 z8 hbx
         have hq1 : (((((((((V2.setCell ⟨V1.heap.size, 0, none⟩ (.int .i64 y.Pid)).setCell ⟨V1.heap.size, 1, none⟩ (.string y.Name)).setCell ⟨V1.heap.size, 2, none⟩ (.string y.Mod)).setCell ⟨V1.heap.size, 3, none⟩ (.int .i64 y.No)).setCell ⟨V1.heap.size, 4, none⟩ (.int .i64 hK)).setCell ⟨V1.heap.size, 5, none⟩ (.int .i64 hN)).setCell ⟨V1.heap.size, 6, none⟩ (.string hS)).setCell ⟨V1.heap.size, 7, none⟩ (.slice ha7 hl7 hc7)).setCell ⟨V1.heap.size, 8, none⟩ (.slice ha8 hl8 hc8)).heap[V1.heap.size]? = some (.cells #[.int .i64 y.Pid, .string y.Name, .string y.Mod, .int .i64 y.No, .int .i64 hK, .int .i64 hN, .string hS, .slice ha7 hl7 hc7, .slice ha8 hl8 hc8] 33 (0, 0)) := put9 hq (.int .i64 y.Pid) (.string y.Name) (.string y.Mod) (.int .i64 y.No) (.int .i64 hK) (.int .i64 hN) (.string hS) (.slice ha7 hl7 hc7) (.slice ha8 hl8 hc8)
         have hq2 : Below V6.heap.size V6 (((((((((V2.setCell ⟨V1.heap.size, 0, none⟩ (.int .i64 y.Pid)).setCell ⟨V1.heap.size, 1, none⟩ (.string y.Name)).setCell ⟨V1.heap.size, 2, none⟩ (.string y.Mod)).setCell ⟨V1.heap.size, 3, none⟩ (.int .i64 y.No)).setCell ⟨V1.heap.size, 4, none⟩ (.int .i64 hK)).setCell ⟨V1.heap.size, 5, none⟩ (.int .i64 hN)).setCell ⟨V1.heap.size, 6, none⟩ (.string hS)).setCell ⟨V1.heap.size, 7, none⟩ (.slice ha7 hl7 hc7)).setCell ⟨V1.heap.size, 8, none⟩ (.slice ha8 hl8 hc8)) := below9 hY (by first | exact Nat.le_refl _ | exact hn0 | exact hn1) (.int .i64 y.Pid) (.string y.Name) (.string y.Mod) (.int .i64 y.No) (.int .i64 hK) (.int .i64 hN) (.string hS) (.slice ha7 hl7 hc7) (.slice ha8 hl8 hc8)
         have hq3 : WorkerR (d + 1) (((((((((V2.setCell ⟨V1.heap.size, 0, none⟩ (.int .i64 y.Pid)).setCell ⟨V1.heap.size, 1, none⟩ (.string y.Name)).setCell ⟨V1.heap.size, 2, none⟩ (.string y.Mod)).setCell ⟨V1.heap.size, 3, none⟩ (.int .i64 y.No)).setCell ⟨V1.heap.size, 4, none⟩ (.int .i64 hK)).setCell ⟨V1.heap.size, 5, none⟩ (.int .i64 hN)).setCell ⟨V1.heap.size, 6, none⟩ (.string hS)).setCell ⟨V1.heap.size, 7, none⟩ (.slice ha7 hl7 hc7)).setCell ⟨V1.heap.size, 8, none⟩ (.slice ha8 hl8 hc8)) [.int .i64 y.Pid, .string y.Name, .string y.Mod, .int .i64 y.No, .int .i64 hK, .int .i64 hN, .string hS, .slice ha7 hl7 hc7, .slice ha8 hl8 hc8] (upW y) := WorkerO.reads (d + 1) _ _ _ _ (WorkerO.lasts (d + 1) _ (((((((((V2.setCell ⟨V1.heap.size, 0, none⟩ (.int .i64 y.Pid)).setCell ⟨V1.heap.size, 1, none⟩ (.string y.Name)).setCell ⟨V1.heap.size, 2, none⟩ (.string y.Mod)).setCell ⟨V1.heap.size, 3, none⟩ (.int .i64 y.No)).setCell ⟨V1.heap.size, 4, none⟩ (.int .i64 hK)).setCell ⟨V1.heap.size, 5, none⟩ (.int .i64 hN)).setCell ⟨V1.heap.size, 6, none⟩ (.string hS)).setCell ⟨V1.heap.size, 7, none⟩ (.slice ha7 hl7 hc7)).setCell ⟨V1.heap.size, 8, none⟩ (.slice ha8 hl8 hc8)) _ _ _ HVV.out.1 fun g hg => kept9 (w := V2) (b := V1.heap.size) (g := g) (by have h1 := (HVV.out.2.2 g hg).1; skip; intro e; subst e; (try simp at h1); omega) (.int .i64 y.Pid) (.string y.Name) (.string y.Mod) (.int .i64 y.No) (.int .i64 hK) (.int .i64 hN) (.string hS) (.slice ha7 hl7 hc7) (.slice ha8 hl8 hc8))
         have HF3 : Hid (WorkerR (d + 1) (((((((((V2.setCell ⟨V1.heap.size, 0, none⟩ (.int .i64 y.Pid)).setCell ⟨V1.heap.size, 1, none⟩ (.string y.Name)).setCell ⟨V1.heap.size, 2, none⟩ (.string y.Mod)).setCell ⟨V1.heap.size, 3, none⟩ (.int .i64 y.No)).setCell ⟨V1.heap.size, 4, none⟩ (.int .i64 hK)).setCell ⟨V1.heap.size, 5, none⟩ (.int .i64 hN)).setCell ⟨V1.heap.size, 6, none⟩ (.string hS)).setCell ⟨V1.heap.size, 7, none⟩ (.slice ha7 hl7 hc7)).setCell ⟨V1.heap.size, 8, none⟩ (.slice ha8 hl8 hc8)) [.int .i64 y.Pid, .string y.Name, .string y.Mod, .int .i64 y.No, .int .i64 hK, .int .i64 hN, .string hS, .slice ha7 hl7 hc7, .slice ha8 hl8 hc8] (upW y) ∧ (((((((((V2.setCell ⟨V1.heap.size, 0, none⟩ (.int .i64 y.Pid)).setCell ⟨V1.heap.size, 1, none⟩ (.string y.Name)).setCell ⟨V1.heap.size, 2, none⟩ (.string y.Mod)).setCell ⟨V1.heap.size, 3, none⟩ (.int .i64 y.No)).setCell ⟨V1.heap.size, 4, none⟩ (.int .i64 hK)).setCell ⟨V1.heap.size, 5, none⟩ (.int .i64 hN)).setCell ⟨V1.heap.size, 6, none⟩ (.string hS)).setCell ⟨V1.heap.size, 7, none⟩ (.slice ha7 hl7 hc7)).setCell ⟨V1.heap.size, 8, none⟩ (.slice ha8 hl8 hc8)).heap[V1.heap.size]? = some (.cells #[.int .i64 y.Pid, .string y.Name, .string y.Mod, .int .i64 y.No, .int .i64 hK, .int .i64 hN, .string hS, .slice ha7 hl7 hc7, .slice ha8 hl8 hc8] 33 (0, 0)) ∧ Below V6.heap.size V6 (((((((((V2.setCell ⟨V1.heap.size, 0, none⟩ (.int .i64 y.Pid)).setCell ⟨V1.heap.size, 1, none⟩ (.string y.Name)).setCell ⟨V1.heap.size, 2, none⟩ (.string y.Mod)).setCell ⟨V1.heap.size, 3, none⟩ (.int .i64 y.No)).setCell ⟨V1.heap.size, 4, none⟩ (.int .i64 hK)).setCell ⟨V1.heap.size, 5, none⟩ (.int .i64 hN)).setCell ⟨V1.heap.size, 6, none⟩ (.string hS)).setCell ⟨V1.heap.size, 7, none⟩ (.slice ha7 hl7 hc7)).setCell ⟨V1.heap.size, 8, none⟩ (.slice ha8 hl8 hc8))) := ⟨hq3, hq1, hq2⟩
         clear hq hq1 hq2 hq3
         go_wp2_with fail
         go_meet
         case rel => exact ⟨V1.heap.size, hK, hN, hS, ha7, ha8, hl7, hc7, hl8, hc8, by with_reducible rfl, by with_reducible rfl, by with_reducible exact HF3⟩)
      | (have hq : V2.heap[V0.heap.size]? = some (.cells #[.int .i64 0, .string ⟨#[]⟩, .string ⟨#[]⟩, .int .i64 0, .int .i64 0, .int .i64 0, .string ⟨#[]⟩, .slice none 0 0, .slice none 0 0] 33 (0, 0)) := by with_reducible exact hbx
         clear e0 e1 e2 e3 e4 e5 e6 e7 e8 z0 z1 z2 z3 z4 z5 z6 z7 z8 hbx
         have hq1 : (((((((((V2.setCell ⟨V0.heap.size, 0, none⟩ (.int .i64 y.Pid)).setCell ⟨V0.heap.size, 1, none⟩ (.string y.Name)).setCell ⟨V0.heap.size, 2, none⟩ (.string y.Mod)).setCell ⟨V0.heap.size, 3, none⟩ (.int .i64 y.No)).setCell ⟨V0.heap.size, 4, none⟩ (.int .i64 hK)).setCell ⟨V0.heap.size, 5, none⟩ (.int .i64 hN)).setCell ⟨V0.heap.size, 6, none⟩ (.string hS)).setCell ⟨V0.heap.size, 7, none⟩ (.slice ha7 hl7 hc7)).setCell ⟨V0.heap.size, 8, none⟩ (.slice ha8 hl8 hc8)).heap[V0.heap.size]? = some (.cells #[.int .i64 y.Pid, .string y.Name, .string y.Mod, .int .i64 y.No, .int .i64 hK, .int .i64 hN, .string hS, .slice ha7 hl7 hc7, .slice ha8 hl8 hc8] 33 (0, 0)) := put9 hq (.int .i64 y.Pid) (.string y.Name) (.string y.Mod) (.int .i64 y.No) (.int .i64 hK) (.int .i64 hN) (.string hS) (.slice ha7 hl7 hc7) (.slice ha8 hl8 hc8)
         have hq2 : Below V6.heap.size V6 (((((((((V2.setCell ⟨V0.heap.size, 0, none⟩ (.int .i64 y.Pid)).setCell ⟨V0.heap.size, 1, none⟩ (.string y.Name)).setCell ⟨V0.heap.size, 2, none⟩ (.string y.Mod)).setCell ⟨V0.heap.size, 3, none⟩ (.int .i64 y.No)).setCell ⟨V0.heap.size, 4, none⟩ (.int .i64 hK)).setCell ⟨V0.heap.size, 5, none⟩ (.int .i64 hN)).setCell ⟨V0.heap.size, 6, none⟩ (.string hS)).setCell ⟨V0.heap.size, 7, none⟩ (.slice ha7 hl7 hc7)).setCell ⟨V0.heap.size, 8, none⟩ (.slice ha8 hl8 hc8)) := below9 hY (by first | exact Nat.le_refl _ | exact hn0 | exact hn1) (.int .i64 y.Pid) (.string y.Name) (.string y.Mod) (.int .i64 y.No) (.int .i64 hK) (.int .i64 hN) (.string hS) (.slice ha7 hl7 hc7) (.slice ha8 hl8 hc8)
         have hq3 : WorkerR (d + 1) (((((((((V2.setCell ⟨V0.heap.size, 0, none⟩ (.int .i64 y.Pid)).setCell ⟨V0.heap.size, 1, none⟩ (.string y.Name)).setCell ⟨V0.heap.size, 2, none⟩ (.string y.Mod)).setCell ⟨V0.heap.size, 3, none⟩ (.int .i64 y.No)).setCell ⟨V0.heap.size, 4, none⟩ (.int .i64 hK)).setCell ⟨V0.heap.size, 5, none⟩ (.int .i64 hN)).setCell ⟨V0.heap.size, 6, none⟩ (.string hS)).setCell ⟨V0.heap.size, 7, none⟩ (.slice ha7 hl7 hc7)).setCell ⟨V0.heap.size, 8, none⟩ (.slice ha8 hl8 hc8)) [.int .i64 y.Pid, .string y.Name, .string y.Mod, .int .i64 y.No, .int .i64 hK, .int .i64 hN, .string hS, .slice ha7 hl7 hc7, .slice ha8 hl8 hc8] (upW y) := WorkerO.reads (d + 1) _ _ _ _ (WorkerO.lasts (d + 1) _ (((((((((V2.setCell ⟨V0.heap.size, 0, none⟩ (.int .i64 y.Pid)).setCell ⟨V0.heap.size, 1, none⟩ (.string y.Name)).setCell ⟨V0.heap.size, 2, none⟩ (.string y.Mod)).setCell ⟨V0.heap.size, 3, none⟩ (.int .i64 y.No)).setCell ⟨V0.heap.size, 4, none⟩ (.int .i64 hK)).setCell ⟨V0.heap.size, 5, none⟩ (.int .i64 hN)).setCell ⟨V0.heap.size, 6, none⟩ (.string hS)).setCell ⟨V0.heap.size, 7, none⟩ (.slice ha7 hl7 hc7)).setCell ⟨V0.heap.size, 8, none⟩ (.slice ha8 hl8 hc8)) _ _ _ HVV.out.1 fun g hg => kept9 (w := V2) (b := V0.heap.size) (g := g) (by have h1 := (HVV.out.2.2 g hg).1; have q1 := hB1.size; simp at q1; intro e; subst e; (try simp at h1); omega) (.int .i64 y.Pid) (.string y.Name) (.string y.Mod) (.int .i64 y.No) (.int .i64 hK) (.int .i64 hN) (.string hS) (.slice ha7 hl7 hc7) (.slice ha8 hl8 hc8))
         have HF3 : Hid (WorkerR (d + 1) (((((((((V2.setCell ⟨V0.heap.size, 0, none⟩ (.int .i64 y.Pid)).setCell ⟨V0.heap.size, 1, none⟩ (.string y.Name)).setCell ⟨V0.heap.size, 2, none⟩ (.string y.Mod)).setCell ⟨V0.heap.size, 3, none⟩ (.int .i64 y.No)).setCell ⟨V0.heap.size, 4, none⟩ (.int .i64 hK)).setCell ⟨V0.heap.size, 5, none⟩ (.int .i64 hN)).setCell ⟨V0.heap.size, 6, none⟩ (.string hS)).setCell ⟨V0.heap.size, 7, none⟩ (.slice ha7 hl7 hc7)).setCell ⟨V0.heap.size, 8, none⟩ (.slice ha8 hl8 hc8)) [.int .i64 y.Pid, .string y.Name, .string y.Mod, .int .i64 y.No, .int .i64 hK, .int .i64 hN, .string hS, .slice ha7 hl7 hc7, .slice ha8 hl8 hc8] (upW y) ∧ (((((((((V2.setCell ⟨V0.heap.size, 0, none⟩ (.int .i64 y.Pid)).setCell ⟨V0.heap.size, 1, none⟩ (.string y.Name)).setCell ⟨V0.heap.size, 2, none⟩ (.string y.Mod)).setCell ⟨V0.heap.size, 3, none⟩ (.int .i64 y.No)).setCell ⟨V0.heap.size, 4, none⟩ (.int .i64 hK)).setCell ⟨V0.heap.size, 5, none⟩ (.int .i64 hN)).setCell ⟨V0.heap.size, 6, none⟩ (.string hS)).setCell ⟨V0.heap.size, 7, none⟩ (.slice ha7 hl7 hc7)).setCell ⟨V0.heap.size, 8, none⟩ (.slice ha8 hl8 hc8)).heap[V0.heap.size]? = some (.cells #[.int .i64 y.Pid, .string y.Name, .string y.Mod, .int .i64 y.No, .int .i64 hK, .int .i64 hN, .string hS, .slice ha7 hl7 hc7, .slice ha8 hl8 hc8] 33 (0, 0)) ∧ Below V6.heap.size V6 (((((((((V2.setCell ⟨V0.heap.size, 0, none⟩ (.int .i64 y.Pid)).setCell ⟨V0.heap.size, 1, none⟩ (.string y.Name)).setCell ⟨V0.heap.size, 2, none⟩ (.string y.Mod)).setCell ⟨V0.heap.size, 3, none⟩ (.int .i64 y.No)).setCell ⟨V0.heap.size, 4, none⟩ (.int .i64 hK)).setCell ⟨V0.heap.size, 5, none⟩ (.int .i64 hN)).setCell ⟨V0.heap.size, 6, none⟩ (.string hS)).setCell ⟨V0.heap.size, 7, none⟩ (.slice ha7 hl7 hc7)).setCell ⟨V0.heap.size, 8, none⟩ (.slice ha8 hl8 hc8))) := ⟨hq3, hq1, hq2⟩
         clear hq hq1 hq2 hq3
         go_wp2_with fail
         go_meet
         case rel => exact ⟨V0.heap.size, hK, hN, hS, ha7, ha8, hl7, hc7, hl8, hc8, by with_reducible rfl, by with_reducible rfl, by with_reducible exact HF3⟩)
      | (have hq : V2.heap[V6.heap.size]? = some (.cells #[.int .i64 0, .string ⟨#[]⟩, .string ⟨#[]⟩, .int .i64 0, .int .i64 0, .int .i64 0, .string ⟨#[]⟩, .slice none 0 0, .slice none 0 0] 33 (0, 0)) := by with_reducible exact hbx
         clear e0 e1 e2 e3 e4 e5 e6 e7 e8 z0 z1 z2 z3 z4 z5 z6 z7 z8 hbx
         have hq1 : (((((((((V2.setCell ⟨V6.heap.size, 0, none⟩ (.int .i64 y.Pid)).setCell ⟨V6.heap.size, 1, none⟩ (.string y.Name)).setCell ⟨V6.heap.size, 2, none⟩ (.string y.Mod)).setCell ⟨V6.heap.size, 3, none⟩ (.int .i64 y.No)).setCell ⟨V6.heap.size, 4, none⟩ (.int .i64 hK)).setCell ⟨V6.heap.size, 5, none⟩ (.int .i64 hN)).setCell ⟨V6.heap.size, 6, none⟩ (.string hS)).setCell ⟨V6.heap.size, 7, none⟩ (.slice ha7 hl7 hc7)).setCell ⟨V6.heap.size, 8, none⟩ (.slice ha8 hl8 hc8)).heap[V6.heap.size]? = some (.cells #[.int .i64 y.Pid, .string y.Name, .string y.Mod, .int .i64 y.No, .int .i64 hK, .int .i64 hN, .string hS, .slice ha7 hl7 hc7, .slice ha8 hl8 hc8] 33 (0, 0)) := put9 hq (.int .i64 y.Pid) (.string y.Name) (.string y.Mod) (.int .i64 y.No) (.int .i64 hK) (.int .i64 hN) (.string hS) (.slice ha7 hl7 hc7) (.slice ha8 hl8 hc8)
         have hq2 : Below V6.heap.size V6 (((((((((V2.setCell ⟨V6.heap.size, 0, none⟩ (.int .i64 y.Pid)).setCell ⟨V6.heap.size, 1, none⟩ (.string y.Name)).setCell ⟨V6.heap.size, 2, none⟩ (.string y.Mod)).setCell ⟨V6.heap.size, 3, none⟩ (.int .i64 y.No)).setCell ⟨V6.heap.size, 4, none⟩ (.int .i64 hK)).setCell ⟨V6.heap.size, 5, none⟩ (.int .i64 hN)).setCell ⟨V6.heap.size, 6, none⟩ (.string hS)).setCell ⟨V6.heap.size, 7, none⟩ (.slice ha7 hl7 hc7)).setCell ⟨V6.heap.size, 8, none⟩ (.slice ha8 hl8 hc8)) := below9 hY (by first | exact Nat.le_refl _ | exact hn0 | exact hn1) (.int .i64 y.Pid) (.string y.Name) (.string y.Mod) (.int .i64 y.No) (.int .i64 hK) (.int .i64 hN) (.string hS) (.slice ha7 hl7 hc7) (.slice ha8 hl8 hc8)
         have hq3 : WorkerR (d + 1) (((((((((V2.setCell ⟨V6.heap.size, 0, none⟩ (.int .i64 y.Pid)).setCell ⟨V6.heap.size, 1, none⟩ (.string y.Name)).setCell ⟨V6.heap.size, 2, none⟩ (.string y.Mod)).setCell ⟨V6.heap.size, 3, none⟩ (.int .i64 y.No)).setCell ⟨V6.heap.size, 4, none⟩ (.int .i64 hK)).setCell ⟨V6.heap.size, 5, none⟩ (.int .i64 hN)).setCell ⟨V6.heap.size, 6, none⟩ (.string hS)).setCell ⟨V6.heap.size, 7, none⟩ (.slice ha7 hl7 hc7)).setCell ⟨V6.heap.size, 8, none⟩ (.slice ha8 hl8 hc8)) [.int .i64 y.Pid, .string y.Name, .string y.Mod, .int .i64 y.No, .int .i64 hK, .int .i64 hN, .string hS, .slice ha7 hl7 hc7, .slice ha8 hl8 hc8] (upW y) := WorkerO.reads (d + 1) _ _ _ _ (WorkerO.lasts (d + 1) _ (((((((((V2.setCell ⟨V6.heap.size, 0, none⟩ (.int .i64 y.Pid)).setCell ⟨V6.heap.size, 1, none⟩ (.string y.Name)).setCell ⟨V6.heap.size, 2, none⟩ (.string y.Mod)).setCell ⟨V6.heap.size, 3, none⟩ (.int .i64 y.No)).setCell ⟨V6.heap.size, 4, none⟩ (.int .i64 hK)).setCell ⟨V6.heap.size, 5, none⟩ (.int .i64 hN)).setCell ⟨V6.heap.size, 6, none⟩ (.string hS)).setCell ⟨V6.heap.size, 7, none⟩ (.slice ha7 hl7 hc7)).setCell ⟨V6.heap.size, 8, none⟩ (.slice ha8 hl8 hc8)) _ _ _ HVV.out.1 fun g hg => kept9 (w := V2) (b := V6.heap.size) (g := g) (by have h1 := (HVV.out.2.2 g hg).1; have q1 := hB1.size; have q0 := hB0.size; simp at q0; intro e; subst e; (try simp at h1); omega) (.int .i64 y.Pid) (.string y.Name) (.string y.Mod) (.int .i64 y.No) (.int .i64 hK) (.int .i64 hN) (.string hS) (.slice ha7 hl7 hc7) (.slice ha8 hl8 hc8))
         have HF3 : Hid (WorkerR (d + 1) (((((((((V2.setCell ⟨V6.heap.size, 0, none⟩ (.int .i64 y.Pid)).setCell ⟨V6.heap.size, 1, none⟩ (.string y.Name)).setCell ⟨V6.heap.size, 2, none⟩ (.string y.Mod)).setCell ⟨V6.heap.size, 3, none⟩ (.int .i64 y.No)).setCell ⟨V6.heap.size, 4, none⟩ (.int .i64 hK)).setCell ⟨V6.heap.size, 5, none⟩ (.int .i64 hN)).setCell ⟨V6.heap.size, 6, none⟩ (.string hS)).setCell ⟨V6.heap.size, 7, none⟩ (.slice ha7 hl7 hc7)).setCell ⟨V6.heap.size, 8, none⟩ (.slice ha8 hl8 hc8)) [.int .i64 y.Pid, .string y.Name, .string y.Mod, .int .i64 y.No, .int .i64 hK, .int .i64 hN, .string hS, .slice ha7 hl7 hc7, .slice ha8 hl8 hc8] (upW y) ∧ (((((((((V2.setCell ⟨V6.heap.size, 0, none⟩ (.int .i64 y.Pid)).setCell ⟨V6.heap.size, 1, none⟩ (.string y.Name)).setCell ⟨V6.heap.size, 2, none⟩ (.string y.Mod)).setCell ⟨V6.heap.size, 3, none⟩ (.int .i64 y.No)).setCell ⟨V6.heap.size, 4, none⟩ (.int .i64 hK)).setCell ⟨V6.heap.size, 5, none⟩ (.int .i64 hN)).setCell ⟨V6.heap.size, 6, none⟩ (.string hS)).setCell ⟨V6.heap.size, 7, none⟩ (.slice ha7 hl7 hc7)).setCell ⟨V6.heap.size, 8, none⟩ (.slice ha8 hl8 hc8)).heap[V6.heap.size]? = some (.cells #[.int .i64 y.Pid, .string y.Name, .string y.Mod, .int .i64 y.No, .int .i64 hK, .int .i64 hN, .string hS, .slice ha7 hl7 hc7, .slice ha8 hl8 hc8] 33 (0, 0)) ∧ Below V6.heap.size V6 (((((((((V2.setCell ⟨V6.heap.size, 0, none⟩ (.int .i64 y.Pid)).setCell ⟨V6.heap.size, 1, none⟩ (.string y.Name)).setCell ⟨V6.heap.size, 2, none⟩ (.string y.Mod)).setCell ⟨V6.heap.size, 3, none⟩ (.int .i64 y.No)).setCell ⟨V6.heap.size, 4, none⟩ (.int .i64 hK)).setCell ⟨V6.heap.size, 5, none⟩ (.int .i64 hN)).setCell ⟨V6.heap.size, 6, none⟩ (.string hS)).setCell ⟨V6.heap.size, 7, none⟩ (.slice ha7 hl7 hc7)).setCell ⟨V6.heap.size, 8, none⟩ (.slice ha8 hl8 hc8))) := ⟨hq3, hq1, hq2⟩
         clear hq hq1 hq2 hq3
         go_wp2_with fail
         go_meet
         case rel => exact ⟨V6.heap.size, hK, hN, hS, ha7, ha8, hl7, hc7, hl8, hc8, by with_reducible rfl, by with_reducible rfl, by with_reducible exact HF3⟩)
      | (have HF3 : Hid (WorkerR (d + 1) (V2.alloc (.cells #[.int .i64 y.Pid, .string y.Name, .string y.Mod, .int .i64 y.No, .int .i64 hK, .int .i64 hN, .string hS, .slice ha7 hl7 hc7, .slice ha8 hl8 hc8] 33)) [.int .i64 y.Pid, .string y.Name, .string y.Mod, .int .i64 y.No, .int .i64 hK, .int .i64 hN, .string hS, .slice ha7 hl7 hc7, .slice ha8 hl8 hc8] (upW y) ∧ (V2.alloc (.cells #[.int .i64 y.Pid, .string y.Name, .string y.Mod, .int .i64 y.No, .int .i64 hK, .int .i64 hN, .string hS, .slice ha7 hl7 hc7, .slice ha8 hl8 hc8] 33)).heap[V2.heap.size]? = some (.cells #[.int .i64 y.Pid, .string y.Name, .string y.Mod, .int .i64 y.No, .int .i64 hK, .int .i64 hN, .string hS, .slice ha7 hl7 hc7, .slice ha8 hl8 hc8] 33 (0, 0)) ∧ Below V6.heap.size V6 (V2.alloc (.cells #[.int .i64 y.Pid, .string y.Name, .string y.Mod, .int .i64 y.No, .int .i64 hK, .int .i64 hN, .string hS, .slice ha7 hl7 hc7, .slice ha8 hl8 hc8] 33))) := ⟨WorkerR.lasts (d + 1) _ _ _ _ (WorkerO.reads (d + 1) _ _ _ _ HVV.out.1) ((Below.refl _ _).alloc (Nat.le_refl _) _), heap_alloc_new V2 _, hY.alloc hY.size _⟩
         go_wp2_with fail
         go_meet
         case rel => exact ⟨V2.heap.size, hK, hN, hS, ha7, ha8, hl7, hc7, hl8, hc8, by with_reducible rfl, by with_reducible rfl, by with_reducible exact HF3⟩)
  case rest =>
  obtain ⟨XH, hK, hN, hS, ha7, ha8, hl7, hc7, hl8, hc8, hu6, hu7, HWc⟩ := hcut
  obtain ⟨H, hH⟩ : ∃ X, X = wc := ⟨_, rfl⟩
  rw [← hH] at HWc ⊢
  rw [hu6, hu7]
  have HCH : Hid (Below M2.heap.size M2 H) := HC6.out.trans (HWc.out.2.2.mono HC6.out.size)
  have hkH := HKA.out H (HM2.out H HCH.out).1
  have hC := eqWorker_any (d + 1) [.int .i64 y.Pid, .string y.Name, .string y.Mod, .int .i64 y.No, .int .i64 hK, .int .i64 hN, .string hS, .slice ha7 hl7 hc7, .slice ha8 hl8 hc8] [.int .i64 y.Pid, .string y.Name, .string y.Mod, .int .i64 y.No, .int .i64 wK, .int .i64 wN, .string wS, .slice wa7 wl7 wc7, .slice wa8 wl8 wc8] (upW y) H HWc.out.1 hkH.2.2.2.1 HWF.out
  have c0 : H.cell? ⟨XH, 0, none⟩ = some (.int .i64 y.Pid) := by rw [cell_of_row H _ 0 _ _ _ HWc.out.2.1]; rfl
  have c1 : H.cell? ⟨XH, 1, none⟩ = some (.string y.Name) := by rw [cell_of_row H _ 1 _ _ _ HWc.out.2.1]; rfl
  have c2 : H.cell? ⟨XH, 2, none⟩ = some (.string y.Mod) := by rw [cell_of_row H _ 2 _ _ _ HWc.out.2.1]; rfl
  have c3 : H.cell? ⟨XH, 3, none⟩ = some (.int .i64 y.No) := by rw [cell_of_row H _ 3 _ _ _ HWc.out.2.1]; rfl
  have c4 : H.cell? ⟨XH, 4, none⟩ = some (.int .i64 hK) := by rw [cell_of_row H _ 4 _ _ _ HWc.out.2.1]; rfl
  have c5 : H.cell? ⟨XH, 5, none⟩ = some (.int .i64 hN) := by rw [cell_of_row H _ 5 _ _ _ HWc.out.2.1]; rfl
  have c6 : H.cell? ⟨XH, 6, none⟩ = some (.string hS) := by rw [cell_of_row H _ 6 _ _ _ HWc.out.2.1]; rfl
  have c7 : H.cell? ⟨XH, 7, none⟩ = some (.slice ha7 hl7 hc7) := by rw [cell_of_row H _ 7 _ _ _ HWc.out.2.1]; rfl
  have c8 : H.cell? ⟨XH, 8, none⟩ = some (.slice ha8 hl8 hc8) := by rw [cell_of_row H _ 8 _ _ _ HWc.out.2.1]; rfl
  have e0 : H.cell? ⟨XW, 0, none⟩ = some (.int .i64 y.Pid) := by rw [cell_of_row H _ 0 _ _ _ hkH.2.2.1]; rfl
  have e1 : H.cell? ⟨XW, 1, none⟩ = some (.string y.Name) := by rw [cell_of_row H _ 1 _ _ _ hkH.2.2.1]; rfl
  have e2 : H.cell? ⟨XW, 2, none⟩ = some (.string y.Mod) := by rw [cell_of_row H _ 2 _ _ _ hkH.2.2.1]; rfl
  have e3 : H.cell? ⟨XW, 3, none⟩ = some (.int .i64 y.No) := by rw [cell_of_row H _ 3 _ _ _ hkH.2.2.1]; rfl
  have e4 : H.cell? ⟨XW, 4, none⟩ = some (.int .i64 wK) := by rw [cell_of_row H _ 4 _ _ _ hkH.2.2.1]; rfl
  have e5 : H.cell? ⟨XW, 5, none⟩ = some (.int .i64 wN) := by rw [cell_of_row H _ 5 _ _ _ hkH.2.2.1]; rfl
  have e6 : H.cell? ⟨XW, 6, none⟩ = some (.string wS) := by rw [cell_of_row H _ 6 _ _ _ hkH.2.2.1]; rfl
  have e7 : H.cell? ⟨XW, 7, none⟩ = some (.slice wa7 wl7 wc7) := by rw [cell_of_row H _ 7 _ _ _ hkH.2.2.1]; rfl
  have e8 : H.cell? ⟨XW, 8, none⟩ = some (.slice wa8 wl8 wc8) := by rw [cell_of_row H _ 8 _ _ _ hkH.2.2.1]; rfl
  clear hkH hH hu6 hu7 HWc HSK HXY hY HXY6 HSI HC6
  go_wp2_with fail
  refine hC.mono ?_
  clear hC c0 c1 c2 c3 c4 c5 c6 c7 c8 e0 e1 e2 e3 e4 e5 e6 e7 e8
  rintro e U1 ⟨rfl, hbU⟩
  have HCU : Hid (Below M2.heap.size M2 U1) := HCH.out.trans (hbU.mono HCH.out.size)
  have gU := (HM2.out U1 HCU.out).2.2
  have c0 : U1.cell? ⟨XG, 0, none⟩ = some (.int .i64 y.Pid) := by rw [cell_of_row U1 _ 0 _ _ _ gU]; rfl
  have c1 : U1.cell? ⟨XG, 1, none⟩ = some (.string y.Name) := by rw [cell_of_row U1 _ 1 _ _ _ gU]; rfl
  have c2 : U1.cell? ⟨XG, 2, none⟩ = some (.string y.Mod) := by rw [cell_of_row U1 _ 2 _ _ _ gU]; rfl
  have c3 : U1.cell? ⟨XG, 3, none⟩ = some (.int .i64 y.No) := by rw [cell_of_row U1 _ 3 _ _ _ gU]; rfl
  have c4 : U1.cell? ⟨XG, 4, none⟩ = some (.int .i64 gK) := by rw [cell_of_row U1 _ 4 _ _ _ gU]; rfl
  have c5 : U1.cell? ⟨XG, 5, none⟩ = some (.int .i64 gN) := by rw [cell_of_row U1 _ 5 _ _ _ gU]; rfl
  have c6 : U1.cell? ⟨XG, 6, none⟩ = some (.string gS) := by rw [cell_of_row U1 _ 6 _ _ _ gU]; rfl
  have c7 : U1.cell? ⟨XG, 7, none⟩ = some (.slice ga7 gl7 gc7) := by rw [cell_of_row U1 _ 7 _ _ _ gU]; rfl
  have c8 : U1.cell? ⟨XG, 8, none⟩ = some (.slice ga8 gl8 gc8) := by rw [cell_of_row U1 _ 8 _ _ _ gU]; rfl
  clear hbU gU HCH
  go_wp2_with fail
  refine (HHD.out U1 HCU.out).mono ?_
  clear c0 c1 c2 c3 c4 c5 c6 c7 c8
  rintro e U2 ⟨rfl, hbU⟩
  have hfin : Below w.heap.size w U2 := (HKA.out U2 (HM2.out U2 (HCU.out.trans (hbU.mono HCU.out.size))).1).2.2.2.2
  clear hbU HCU
  go_wp2_with fail
  go_ret
  exact ⟨rfl, hfin⟩

set_option maxRecDepth 100000 in
theorem lifted (os : Os) (started : os.Started) (H : Type) (enc : TypeId × Value → H) :
    ReturnsInHanded {} Try.checked os 4 .any (Rows.fnExactPutWordSpec.pre6 enc Try.prog Try.f4 Rows.fnExactPutWordRow.domain false) (Rows.fnExactPutWordSpec.post enc Try.prog Try.f4 false true false false) := by
  refine returnsInHanded_of_change (C := Try.checked) own started (by kernel_rfl) Try.func4
    (ChangeSpec.witness6 (enc := enc) (C := Try.checked) false ⟨#[], #[.agg #[.int .i64 0, .string ⟨#[]⟩, .string ⟨#[]⟩, .int .i64 0, .int .i64 0, .int .i64 0, .string ⟨#[]⟩, .slice none 0 0, .slice none 0 0], .agg #[.int .i64 0, .int .i64 0, .string ⟨#[]⟩, .slice none 0 0]], []⟩ 8 (by kernel_rfl) (by kernel_rfl) (by kernel_rfl) (by kernel_rfl)) ?_
  intro W base args ds gs before hval0 hW hcnd _
  have hval : ∀ (j : Nat) t v, Try.f4.params[j]? = some t → args[j]? = some v → Value.okWide Try.prog W .any base t v := hval0
  have hW' := hW
  obtain ⟨p, q, hA0, hV, rfl, hfz, hnd⟩ := hW
  have hA : DataW.TrodAll enc Try.prog W 0 (fun _ => true) true Try.f4.params.toList args.toList ds p := hA0
  rw [Try.params4] at hA hval
  obtain ⟨v0, vs0, d0, ds0, p0, q0, hargs, rfl, rfl, h0, rr0⟩ := trodAll_cons hA
  obtain ⟨v1, vs1, d1, ds1, p1, q1, rfl, rfl, rfl, h1, rr1⟩ := trodAll_cons rr0
  obtain ⟨rfl, rfl, rfl⟩ := trodAll_nil rr1
  obtain rfl : args = #[v0, v1] := by cases args; simp_all
  obtain ⟨rfl, rfl⟩ := trodVars_none hV
  have kk0 := h0
  have lt0 : ∀ x ∈ p0, x.block < W.heap.size := by obtain ⟨m, hm⟩ := kk0; exact DataW.trod_lt m _ _ _ hm
  obtain ⟨M0, R0⟩ := read_Worker (hval 0 26 v0 rfl rfl) h0
  have kk1 := h1
  have lt1 : ∀ x ∈ p1, x.block < W.heap.size := by obtain ⟨m, hm⟩ := kk1; exact DataW.trod_lt m _ _ _ hm
  obtain ⟨M1, R1⟩ := read_term (hval 1 24 v1 rfl rfl) h1
  obtain ⟨d, hd⟩ : ∃ d, d = max M0 M1 := ⟨_, rfl⟩
  obtain ⟨vs0, x0, rfl, r0, f0⟩ := R0 d (by omega)
  obtain ⟨k1, n1, s1, l1, t1, rfl, wk1, wn1, ws1, r1, f1⟩ := R1 d (by omega)
  clear hA0 hval0
  refine (walk d W vs0 x0 r0 f0 k1 n1 s1 l1 t1 wk1 wn1 ws1 r1 f1).mono fun e W' ⟨he, bel⟩ => ?_
  subst he
  exact ⟨_, rfl, _, _, _, [], _, [], hW', trodAll_mk1 (shut_bool Try.underlying4 _), (trodAll_cons_mk (Below.trod laidOut (by kernel_rfl) (of_decide_eq_true (by kernel_rfl)) kk0 bel lt0) (trodAll_cons_mk (Below.trod laidOut (by kernel_rfl) (of_decide_eq_true (by kernel_rfl)) kk1 bel lt1) trodAll_mk0)), rfl, bel.frame _, fun h => by cases h⟩

theorem over : Rows.fnExactPutWordRow.holds Try.pinned (OpenSpec.ofChange Rows.fnExactPutWordSpec) :=
  OpenClaim.holds_of_wide 4 Try.f4 rfl rfl rfl rfl rfl rfl rfl ⟨rfl, rfl, rfl, rfl, rfl⟩ rfl rfl rfl rfl rfl (by kernel_rfl) Try.func4 (by kernel_rfl)
    (of_decide_eq_true (by kernel_rfl)) (by unfold Func.isWrapper; first | (rw [if_pos (by decide +kernel)]; kernel_rfl) | (rw [if_neg (by decide +kernel)]; exact ⟨rfl, rfl⟩))
    (fun os started H enc _ => lifted os started H enc)

end Go.Proofs.Ytfachfimdenapaa.fnExactPutWord
namespace Go.Proofs.Ytfachfimdenapaa
/-- THE STATEMENT. -/
theorem fnExactPutWord_said : Rows.FnExactPutWordSaid := fnExactPutWord.over
#print axioms fnExactPutWord_said
end Go.Proofs.Ytfachfimdenapaa
