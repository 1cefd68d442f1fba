/- FnExactVmNew: at every code, name and list of terms (that can be read as data, within the law's own bound) the program's VmNew answers as the model's, leaves its arguments as they were, and its answer owns its memory, behind another call too; the table of shapes is as the program's own text lays it (the card ties it). (The frame round the walk is the guide's own way.) -/
import Derived.Test.YtkkdnkdkelligaaGreatDoorOw4M
import Derived.Test.YtkkdnkdkelligaaGreatDoorSn1M
import Derived.Test.YtkkdnkdkelligaaGreatDoorCk5M
import Derived.Test.YtkkdnkdkelligaaGreatDoorTReadM
import Derived.Test.YtkkdnkdkelligaaGreatDoorTie
import Derived.Test.YtkkdnkdkelligaaGreatDoorCards
import Derived.WalkKit
import Derived.Deep.DeepCutAuto
import Derived.ProofKit
import Derived.LaidMore
import Derived.OpenVars
import Derived.ChangeVars
import Derived.OpenShut
import Derived.ShutString
import Derived.ChangeOld
import Derived.Below
import Derived.Stop.Joined
import Derived.Stop.LaidErr
import Derived.SevenTiedAt
namespace Go.Proofs.YtkkdnkdkelligaaGreatDoor.fnExactVmNew
open Go.ChangeShapes Go.WideShapes Go.ChangeAt Go.RowKit
open Go.ChangeMaps (open_string shut_string)
set_option linter.unusedVariables false

theorem own : ownKnob Tryz.prog.godebug = none := by kernel_rfl
theorem laidOut : laidOutB Tryz.prog = true := by kernel_rfl

set_option maxRecDepth 100000 in
set_option maxHeartbeats 8000000 in
theorem walk (d : Nat) (w : World) (htab : ShOk w) (vs0 : List Value) (x0 : DCode d) (r0 : CodeR d w vs0 x0) (f0 : WfCode d x0) (a1 : ByteArray) (w1 : a1.size ≤ maxLen) (l2 : Value) (t2 : List (Tm (d + 1))) (r2 : RdL (d + 1) w l2 t2) (f2 : WfL (d + 1) t2) :
    Calls Tryz.prog 4 #[.agg vs0.toArray, .string a1, l2] w fun e w' => e = .returned (.bool true) ∧ Below w.heap.size w w' := by
  have HTB : Hid (∀ V : World, Below w.heap.size w V → ShOk V) := fun V hV => htab.later hV
  clear htab
  obtain ⟨pa0, pl0, pc0, pa1, pl1, pc1, rfl⟩ := CodeR.shape d _ _ _ r0
  obtain ⟨sa, sc, rfl⟩ := r2.len1
  obtain ⟨n, hn⟩ : ∃ n, t2.length = n := ⟨_, rfl⟩
  rw [hn] at r2 ⊢
  have HR : Hid (∀ V : World, Below w.heap.size w V → CodeR d V [.slice pa0 pl0 pc0, .slice pa1 pl1 pc1] x0) := fun V hV => CodeR.lasts d _ _ _ _ r0 hV
  have HQ : Hid (∀ V : World, Below w.heap.size w V → RdL (d + 1) V (.slice sa n sc) t2) := fun V hV => r2.later hV
  have HF : Hid (WfCode d x0) := f0
  have HG : Hid (WfL (d + 1) t2) := f2
  have HLN : Hid (t2.length = n) := hn
  have HSX : Hid (∀ (V : World) (vs : List Value) (fp : List Nat), CodeO d V vs x0 fp → ShCode vs) := fun V vs fp h => CodeO.shape d V vs x0 fp h
  obtain ⟨W0, hW0⟩ : ∃ W, W = w.alloc (.cells #[.slice pa0 pl0 pc0, .slice pa1 pl1 pc1] 25) := ⟨_, rfl⟩
  have bel0 : Below w.heap.size w W0 := by rw [hW0]; exact (Below.refl _ _).alloc (Nat.le_refl _) _
  have box0 : W0.heap[w.heap.size]? = some (.cells #[.slice pa0 pl0 pc0, .slice pa1 pl1 pc1] 25 (0, 0)) := by rw [hW0]; exact heap_alloc_new w _
  have hC := szCode_any d [.slice pa0 pl0 pc0, .slice pa1 pl1 pc1] x0 1048576 W0 (HR.out W0 bel0) HF.out (by omega) (by omega)
  rw [hW0] at hC
  have HW0 : Hid (W0 = _) := hW0
  have hmx : maxLen ≤ 9223372036854775807 := by decide
  by_cases hnm : a1.size ≤ 1048576
  case neg =>
    have hnm' : (1048576 : Int) < (a1.size : Int) := by omega
    have HBX : Hid (Below w.heap.size w W0) := bel0
    rw [HW0.out] at HBX
    clear hC r0 f0 r2 f2 HR HQ HF HG hnm box0 bel0 HW0 hn hW0
    go_enter Tryz.func4, Tryz.ntmps4
    go_wp2_with fail
    go_ret
    exact ⟨rfl, HBX.out⟩
  have hnn : ¬ (1048576 : Int) < (a1.size : Int) := by omega
  clear r0 f0 r2 f2 hW0 hn
  go_enter Tryz.func4, Tryz.ntmps4
  go_wp2_with fail
  refine hC.mono ?_
  clear hC
  rintro e wa ⟨rfl, bela⟩
  rw [← HW0.out] at bela
  have boxa := (bela.block _ (lt_row box0)).trans box0
  have belA : Below w.heap.size w wa := bel0.trans (bela.mono bel0.size)
  clear bel0 bela box0 HW0
  by_cases hz : szCodeD d x0 ≤ 1048576
  case neg =>
    have hl : lft 1048576 (szCodeD d x0) = -1 := by unfold lft; rw [if_neg (by omega)]
    rw [hl]
    clear hz hl boxa
    go_wp2_with fail
    go_ret
    exact ⟨rfl, belA⟩
  obtain ⟨x, hx, hxp, hxm⟩ : ∃ x : Int, lft 1048576 (szCodeD d x0) = x ∧ 0 ≤ x ∧ x ≤ 1048576 := ⟨_, rfl, by unfold lft; rw [if_pos (by omega)]; omega, by unfold lft; rw [if_pos (by omega)]; omega⟩
  rw [hx]
  have HZ : Hid (szCodeD d x0 ≤ 1048576) := hz
  clear hz hx
  have hC := szTermS_any (d + 1) (.slice sa n sc) t2 x wa (HQ.out wa belA) HG.out (by omega) (by omega)
  go_wp2_with fail
  refine hC.mono ?_
  clear hC
  rintro e wb ⟨rfl, belb⟩
  have boxb := (belb.block _ (lt_row boxa)).trans boxa
  have belB : Below w.heap.size w wb := belA.trans (belb.mono belA.size)
  clear belA belb boxa
  by_cases hz : (szL (d + 1) t2 : Int) ≤ x
  case neg =>
    have hl : lft x (szL (d + 1) t2) = -1 := by unfold lft; rw [if_neg (by omega)]
    rw [hl]
    clear hz hl boxb
    go_wp2_with fail
    go_ret
    exact ⟨rfl, belB⟩
  obtain ⟨y, hy, hyp⟩ : ∃ y : Int, lft x (szL (d + 1) t2) = y ∧ 0 ≤ y := ⟨_, rfl, by unfold lft; rw [if_pos (by omega)]; omega⟩
  rw [hy]
  have HY : Hid (szL (d + 1) t2 ≤ 1048576) := by show _ ≤ _; omega
  clear hz hy
  have HTX : Hid (∀ V : World, Below w.heap.size w V → _) := fun V hV => toCode_any d [.slice pa0 pl0 pc0, .slice pa1 pl1 pc1] x0 V (HR.out V hV) HF.out HZ.out
  have HTT : Hid (∀ V : World, Below w.heap.size w V → Calls Tryz.prog 15 #[.slice sa n sc] V fun e w' => ∃ a c fp, e = .returned (.slice a n c) ∧ Hid (OwnL (d + 1) w' (.slice a n c) t2 fp ∧ Fresh V.heap.size w' fp) ∧ Below V.heap.size V w') := fun V hV => by
    refine (toTermS_any (d + 1) (.slice sa n sc) t2 V (HQ.out V hV) HG.out HY.out).mono ?_
    rintro e w' ⟨a, l, c, fp, rfl, ho, hf, hb⟩
    obtain ⟨a', c', e1⟩ := ho.rd.len1
    have e2 : l = n := by rw [← HLN.out]; simpa using (Value.slice.inj e1).2.1
    subst e2
    exact ⟨a, c, fp, rfl, ⟨ho, hf⟩, hb⟩
  have hnb : n ≤ 1048576 := by have := szL_len t2; have := HY.out; have := HLN.out; omega
  have HFW : Hid (FewL (d + 1) t2) := few_sz _ _ HY.out
  have HCT : Hid (cntL (d + 1) t2 ≤ 1048576) := Nat.le_trans (cntL_szL _ _) HY.out
  have b0 : wb.cell? ⟨w.heap.size, 0, none⟩ = some (.slice pa0 pl0 pc0) := by rw [cell_of_row wb _ 0 _ _ _ boxb]; rfl
  have b1 : wb.cell? ⟨w.heap.size, 1, none⟩ = some (.slice pa1 pl1 pc1) := by rw [cell_of_row wb _ 1 _ _ _ boxb]; rfl
  go_wp2_with fail
  refine (HTX.out wb belB).mono ?_
  rintro e wc ⟨vs1, fp1, rfl, own1, _, belc⟩
  obtain ⟨sa0, sl0, sc0, sa1, sl1, sc1, rfl⟩ := HSX.out _ _ _ own1
  have belC : Below w.heap.size w wc := belB.trans (belc.mono belB.size)
  have HRS : Hid (∀ V : World, Below wc.heap.size wc V → CodeR d V [.slice sa0 sl0 sc0, .slice sa1 sl1 sc1] x0) := fun V hV => CodeR.lasts d _ _ _ _ (CodeO.reads d _ _ _ _ own1) hV
  have boxc := (belc.block _ (lt_row boxb)).trans boxb
  clear b0 b1 own1 belc boxb belB
  go_wp2_with fail
  refine (HTT.out wc belC).mono ?_
  rintro e wd ⟨ta, tc, fp2, rfl, HO2, beld⟩
  have hC := specVmNew_any d _ x0 a1 ta n tc t2 wd (HRS.out wd beld) HF.out HZ.out HO2.out.1.rd HLN.out hnb HG.out HFW.out
  have boxd := (beld.block _ (lt_row boxc)).trans boxc
  have belD : Below w.heap.size w wd := belC.trans (beld.mono belC.size)
  clear HRS HO2 beld belC boxc
  go_wp2_with fail
  refine hC.mono ?_
  clear hC
  rintro e we ⟨wa0, wl0, wc0, wa1, wl1, wc1, ok, v, rfl, HVV, bele⟩
  have HVT : Hid (VmNewT x0 a1 t2 v ok) := HVV.out.1
  have HWF : Hid (WfVm d v) := HVV.out.1.wf HG.out (by have := szRow_len szFnD x0.Fns; have := HZ.out; unfold szCodeD at this; omega) (by have := HLN.out; omega)
  have HCK : Hid (ckSVm d v ≤ 4000000) := HVV.out.1.ck HCT.out
  have boxe := (bele.block _ (lt_row boxd)).trans boxd
  have belE : Below w.heap.size w we := belD.trans (bele.mono belD.size)
  obtain ⟨A, hA⟩ : ∃ A, A = we.alloc (.cells #[.slice wa0 wl0 wc0, .slice wa1 wl1 wc1] 41) := ⟨_, rfl⟩
  have bA : Below we.heap.size we A := by rw [hA]; exact (Below.refl _ _).alloc (Nat.le_refl _) _
  have nA : A.heap[we.heap.size]? = some (.cells #[.slice wa0 wl0 wc0, .slice wa1 wl1 wc1] 41 (0, 0)) := by rw [hA]; exact heap_alloc_new we _
  have boxA := (bA.block _ (lt_row boxe)).trans boxe
  have belA : Below w.heap.size w A := belE.trans (bA.mono belE.size)
  have HKA : Hid (∀ V : World, Below A.heap.size A V → V.heap[w.heap.size]? = some (.cells #[.slice pa0 pl0 pc0, .slice pa1 pl1 pc1] 25 (0, 0)) ∧ V.heap[we.heap.size]? = some (.cells #[.slice wa0 wl0 wc0, .slice wa1 wl1 wc1] 41 (0, 0)) ∧ VmR d V [.slice wa0 wl0 wc0, .slice wa1 wl1 wc1] v ∧ Below w.heap.size w V) := fun V hV =>
    ⟨(hV.block _ (lt_row boxA)).trans boxA, (hV.block _ (lt_row nA)).trans nA, VmR.lasts d _ _ _ _ HVV.out.2 (bA.trans (hV.mono bA.size)), belA.trans (hV.mono belA.size)⟩
  have HAN : Hid (w.heap.size ≤ A.heap.size ∧ we.heap.size < A.heap.size) := ⟨belA.size, lt_row nA⟩
  have hC := HTX.out A belA
  have b0 : A.cell? ⟨w.heap.size, 0, none⟩ = some (.slice pa0 pl0 pc0) := by rw [cell_of_row A _ 0 _ _ _ boxA]; rfl
  have b1 : A.cell? ⟨w.heap.size, 1, none⟩ = some (.slice pa1 pl1 pc1) := by rw [cell_of_row A _ 1 _ _ _ boxA]; rfl
  rw [hA] at hC b0 b1
  have HA : Hid (A = _) := hA
  clear HVV bele boxd belD boxe belE hA bA nA boxA belA
  go_wp2_with fail
  refine hC.mono ?_
  clear hC b0 b1
  rintro e wf ⟨vs3, fpx, rfl, ownx, frx, belf⟩
  rw [← HA.out] at frx belf
  obtain ⟨ra0, rl0, rc0, ra1, rl1, rc1, rfl⟩ := HSX.out _ _ _ ownx
  obtain ⟨C1, hC1⟩ : ∃ X, X = wf.alloc (.cells #[.slice ra0 rl0 rc0, .slice ra1 rl1 rc1] 36) := ⟨_, rfl⟩
  have bC1 : Below wf.heap.size wf C1 := by rw [hC1]; exact (Below.refl _ _).alloc (Nat.le_refl _) _
  have nX : C1.heap[wf.heap.size]? = some (.cells #[.slice ra0 rl0 rc0, .slice ra1 rl1 rc1] 36 (0, 0)) := by rw [hC1]; exact heap_alloc_new wf _
  have hC1s : C1.heap.size = wf.heap.size + 1 := by rw [hC1]; simp
  have bAC : Below A.heap.size A C1 := belf.trans (bC1.mono belf.size)
  have HOX : Hid (∀ V : World, Below C1.heap.size C1 V → CodeO d V [.slice ra0 rl0 rc0, .slice ra1 rl1 rc1] x0 fpx ∧ V.heap[wf.heap.size]? = some (.cells #[.slice ra0 rl0 rc0, .slice ra1 rl1 rc1] 36 (0, 0)) ∧ Below A.heap.size A V) := fun V hV =>
    ⟨CodeO.lasts d _ _ _ _ _ ownx fun g hg => (hV.block g (Nat.lt_of_lt_of_le (frx.2 g hg).2 bC1.size)).trans (bC1.block g (frx.2 g hg).2), (hV.block _ (lt_row nX)).trans nX, bAC.trans (hV.mono bAC.size)⟩
  have HFX : Hid (fpx.Nodup ∧ ∀ g ∈ fpx, A.heap.size ≤ g ∧ g < wf.heap.size) := ⟨frx.1, frx.2⟩
  have hC := HTT.out C1 (HKA.out C1 bAC).2.2.2
  rw [hC1] at hC
  have HC1 : Hid (C1 = _) := hC1
  have HZ1 : Hid (A.heap.size ≤ wf.heap.size ∧ C1.heap.size = wf.heap.size + 1) := ⟨belf.size, hC1s⟩
  clear ownx frx belf bC1 nX bAC hC1 hC1s HA
  go_wp2_with fail
  refine hC.mono ?_
  clear hC
  rintro e wg ⟨ua, uc, fpt, rfl, HOT, belg⟩
  rw [← HC1.out] at HOT belg
  obtain ⟨o1, o2, o3⟩ := HOX.out wg belg
  have hC := implVmNew_any d _ x0 a1 ua n uc t2 wg (CodeO.reads d _ _ _ _ o1) HF.out HZ.out (HTB.out wg (HKA.out wg o3).2.2.2) HOT.out.1.rdq HLN.out hnb HG.out HCT.out
  have d0 : wg.cell? ⟨wf.heap.size, 0, none⟩ = some (.slice ra0 rl0 rc0) := by rw [cell_of_row wg _ 0 _ _ _ o2]; rfl
  have d1 : wg.cell? ⟨wf.heap.size, 1, none⟩ = some (.slice ra1 rl1 rc1) := by rw [cell_of_row wg _ 1 _ _ _ o2]; rfl
  have HZ2 : Hid (C1.heap.size ≤ wg.heap.size) := belg.size
  have HBG : Hid (Below C1.heap.size C1 wg) := belg
  have HFT : Hid (fpt.Nodup ∧ ∀ g ∈ fpt, C1.heap.size ≤ g ∧ g < wg.heap.size) := ⟨HOT.out.2.1, HOT.out.2.2⟩
  clear o1 o2 o3 belg HC1
  go_wp2_with fail
  refine hC.mono ?_
  clear hC d0 d1
  rintro e wh ⟨ga0, gl0, gc0, ga1, gl1, gc1, ok2, v2, fpg, rfl, HV2, belh⟩
  obtain ⟨rfl, rfl⟩ := HVT.out.same HV2.out.1
  obtain ⟨G, hG⟩ : ∃ X, X = wh.alloc (.cells #[.slice ga0 gl0 gc0, .slice ga1 gl1 gc1] 41) := ⟨_, rfl⟩
  have bG : Below wh.heap.size wh G := by rw [hG]; exact (Below.refl _ _).alloc (Nat.le_refl _) _
  have nG : G.heap[wh.heap.size]? = some (.cells #[.slice ga0 gl0 gc0, .slice ga1 gl1 gc1] 41 (0, 0)) := by rw [hG]; exact heap_alloc_new wh _
  have bgG : Below wg.heap.size wg G := belh.trans (bG.mono belh.size)
  have bCG : Below C1.heap.size C1 G := HBG.out.trans (bgG.mono HBG.out.size)
  have HFG : Hid (fpg.Nodup ∧ ∀ g ∈ fpg, wg.heap.size ≤ g ∧ g < wh.heap.size) := ⟨HV2.out.2.2.1, HV2.out.2.2.2⟩
  have HZ3 : Hid (wg.heap.size ≤ wh.heap.size ∧ wh.heap.size < G.heap.size) := ⟨belh.size, lt_row nG⟩
  have HSG : Hid (∀ V : World, Below G.heap.size G V → (CodeO d V [.slice ra0 rl0 rc0, .slice ra1 rl1 rc1] x0 fpx ∧ V.heap[wf.heap.size]? = some (.cells #[.slice ra0 rl0 rc0, .slice ra1 rl1 rc1] 36 (0, 0)) ∧ Below A.heap.size A V) ∧ OwnL (d + 1) V (.slice ua n uc) t2 fpt ∧ VmO d V [.slice ga0 gl0 gc0, .slice ga1 gl1 gc1] v fpg ∧ V.heap[wh.heap.size]? = some (.cells #[.slice ga0 gl0 gc0, .slice ga1 gl1 gc1] 41 (0, 0))) := fun V hV => by
    refine ⟨HOX.out V (bCG.trans (hV.mono bCG.size)), HOT.out.1.frame fun g hg => ?_, VmO.lasts d _ _ _ _ _ HV2.out.2.1 fun g hg => ?_, (hV.block _ (lt_row nG)).trans nG⟩
    · have := (HFT.out.2 g hg).2
      exact ((bgG.trans (hV.mono bgG.size)).block g this)
    · have := (HFG.out.2 g hg).2
      exact ((bG.trans (hV.mono bG.size)).block g this)
  have hS := HSG.out G (Below.refl _ _)
  have hK := HKA.out G hS.1.2.2
  have hC := eqVm_any d [.slice ga0 gl0 gc0, .slice ga1 gl1 gc1] [.slice wa0 wl0 wc0, .slice wa1 wl1 wc1] v G (VmO.reads d _ _ _ _ hS.2.2.1) hK.2.2.1 HWF.out
  have gG := hS.2.2.2
  have wG := hK.2.1
  have c0 : G.cell? ⟨wh.heap.size, 0, none⟩ = some (.slice ga0 gl0 gc0) := by rw [cell_of_row G _ 0 _ _ _ gG]; rfl
  have c1 : G.cell? ⟨wh.heap.size, 1, none⟩ = some (.slice ga1 gl1 gc1) := by rw [cell_of_row G _ 1 _ _ _ gG]; rfl
  have e0 : G.cell? ⟨we.heap.size, 0, none⟩ = some (.slice wa0 wl0 wc0) := by rw [cell_of_row G _ 0 _ _ _ wG]; rfl
  have e1 : G.cell? ⟨we.heap.size, 1, none⟩ = some (.slice wa1 wl1 wc1) := by rw [cell_of_row G _ 1 _ _ _ wG]; rfl
  rw [hG] at hC c0 c1 e0 e1
  have HGE : Hid (G = _) := hG
  have hne : (ok != ok) = false := by cases ok <;> rfl
  clear HV2 belh hG bG nG bgG bCG hS hK gG wG HOT HOX HBG
  have hwlt : we.heap.size < wh.heap.size := by have := HAN.out; have := HZ1.out; have := HZ2.out; have := HZ3.out; omega
  go_wp2_with fail
  refine hC.mono ?_
  clear hC c0 c1 e0 e1
  rintro e V1 ⟨rfl, hb1⟩
  rw [← HGE.out] at hb1
  have HC1 : Hid (Below G.heap.size G V1) := hb1
  obtain ⟨⟨_, nX1, bA1⟩, _, _, _⟩ := HSG.out V1 hb1
  obtain ⟨nP1, _, _, bw1⟩ := HKA.out V1 bA1
  have d0 : V1.cell? ⟨wf.heap.size, 0, none⟩ = some (.slice ra0 rl0 rc0) := by rw [cell_of_row V1 _ 0 _ _ _ nX1]; rfl
  have d1 : V1.cell? ⟨wf.heap.size, 1, none⟩ = some (.slice ra1 rl1 rc1) := by rw [cell_of_row V1 _ 1 _ _ _ nX1]; rfl
  have b0 : V1.cell? ⟨w.heap.size, 0, none⟩ = some (.slice pa0 pl0 pc0) := by rw [cell_of_row V1 _ 0 _ _ _ nP1]; rfl
  have b1 : V1.cell? ⟨w.heap.size, 1, none⟩ = some (.slice pa1 pl1 pc1) := by rw [cell_of_row V1 _ 1 _ _ _ nP1]; rfl
  have HEX : Hid (∀ (V : World) (sa0 : Option Addr) (sl0 sc0 : Nat) (sa1 : Option Addr) (sl1 sc1 : Nat), Below V1.heap.size V1 V → CodeR d V [.slice sa0 sl0 sc0, .slice sa1 sl1 sc1] x0 → _) := fun V sa0 sl0 sc0 sa1 sl1 sc1 hV h => eqCode_any d [.slice ra0 rl0 rc0, .slice ra1 rl1 rc1] [.slice sa0 sl0 sc0, .slice sa1 sl1 sc1] x0 V (CodeO.reads d _ _ _ _ (HSG.out V (HC1.out.trans (hV.mono HC1.out.size))).1.1) h HF.out
  have HT0 : Hid (∀ V0 : World, Below w.heap.size w V0 → Calls Tryz.prog 8 #[.agg #[.slice pa0 pl0 pc0, .slice pa1 pl1 pc1]] V0 fun e V => ∃ (sa0 : Option Addr) (sl0 sc0 : Nat) (sa1 : Option Addr) (sl1 sc1 : Nat), e = .returned (.agg #[.slice sa0 sl0 sc0, .slice sa1 sl1 sc1]) ∧ Hid (CodeR d V [.slice sa0 sl0 sc0, .slice sa1 sl1 sc1] x0) ∧ Below V0.heap.size V0 V) := fun V0 hX => by
    refine (HTX.out V0 hX).mono ?_
    rintro e V ⟨vs3, fp3, rfl, own3, _, hB⟩
    obtain ⟨sa0, sl0, sc0, sa1, sl1, sc1, rfl⟩ := HSX.out _ _ _ own3
    exact ⟨sa0, sl0, sc0, sa1, sl1, sc1, rfl, CodeO.reads d _ _ _ _ own3, hB⟩
  have HSD : Hid (Below w.heap.size w V1.drew) := bw1.drew
  have HGD : Hid (Below V1.heap.size V1 V1.drew) := (Below.refl _ _).drew
  clear hb1 nX1 bA1 nP1 bw1 HGE hwlt
  go_wp2_with fail
  go_cut [65] (fun vv wx => vv = .bool false ∧ Hid (Below V1.heap.size V1 wx))
  case first =>
    go_region_with (first | (go_at_call 8; refine (HT0.out _ HSD.out).mono ?_; rintro e V ⟨sa0, sl0, sc0, sa1, sl1, sc1, rfl, HR3, hB⟩; have hB0 := HGD.out.trans hB; have f0 := cell_later hB0 d0; have f1 := cell_later hB0 d1) | (go_at_call 11; refine (HEX.out V sa0 sl0 sc0 sa1 sl1 sc1 hB0 HR3.out).mono ?_; rintro e V2 ⟨rfl, hB2⟩))
    all_goals
      have hbf : Hid (Below V1.heap.size V1 V2) := hB0.trans (hB2.mono hB0.size)
      clear hB hB0 hB2 HR3
      go_wp2_with fail
      go_meet
      case rel => exact ⟨rfl, hbf⟩
  case rest =>
  obtain ⟨hu, HB2⟩ := hcut
  obtain ⟨V2, hV2⟩ : ∃ w, w = wc := ⟨_, rfl⟩
  rw [← hV2] at HB2 ⊢
  rw [hu]
  clear hV2 hu d0 d1 b0 b1
  have HC2 : Hid (Below G.heap.size G V2) := HC1.out.trans (HB2.out.mono HC1.out.size)
  have bw2 : Below w.heap.size w V2 := (HKA.out V2 (HSG.out V2 HC2.out).1.2.2).2.2.2
  clear HB2 HC1 HSD HGD HEX
  go_wp2_with fail
  refine (HTT.out V2 bw2).mono ?_
  rintro e V3 ⟨ya, yc, fpy, rfl, HOY, hb3⟩
  have HC3 : Hid (Below G.heap.size G V3) := HC2.out.trans (hb3.mono HC2.out.size)
  have hC := eqTermS_any (d + 1) (.slice ua n uc) (.slice ya n yc) t2 V3 (HSG.out V3 HC3.out).2.1.rd HOY.out.1.rd HG.out
  clear HC2 bw2 hb3 HOY
  go_wp2_with fail
  refine hC.mono ?_
  clear hC
  rintro e V4 ⟨rfl, hb4⟩
  have HC4 : Hid (Below G.heap.size G V4) := HC3.out.trans (hb4.mono HC3.out.size)
  clear hb4 HC3
  obtain ⟨⟨ox, nx, bA4⟩, ot, og, ng⟩ := HSG.out V4 HC4.out
  have hGV4 : G.heap.size ≤ V4.heap.size := HC4.out.size
  obtain ⟨N1, hN1⟩ : ∃ N, N = ckSCode d x0 := ⟨_, rfl⟩
  have hN1b : N1 ≤ 4194304 := by have := ckSCode_le d x0; have := HZ.out; omega
  have hM := markCode_any d [.slice ra0 rl0 rc0, .slice ra1 rl1 rc1] x0 fpx 1 V4 ox HFX.out.1 (fun g hg => by have := (HFX.out.2 g hg).2; have := HZ1.out; have := HZ2.out; have := HZ3.out; omega) (by omega) (by rw [← hN1]; omega)
  rw [← hN1] at hM
  have d0 : V4.cell? ⟨wf.heap.size, 0, none⟩ = some (.slice ra0 rl0 rc0) := by rw [cell_of_row V4 _ 0 _ _ _ nx]; rfl
  have d1 : V4.cell? ⟨wf.heap.size, 1, none⟩ = some (.slice ra1 rl1 rc1) := by rw [cell_of_row V4 _ 1 _ _ _ nx]; rfl
  have HV4 : Hid (Below A.heap.size A V4 ∧ OwnL (d + 1) V4 (.slice ua n uc) t2 fpt ∧ VmO d V4 [.slice ga0 gl0 gc0, .slice ga1 gl1 gc1] v fpg ∧ V4.heap[wh.heap.size]? = some (.cells #[.slice ga0 gl0 gc0, .slice ga1 gl1 gc1] 41 (0, 0))) := ⟨bA4, ot, og, ng⟩
  clear ox nx bA4 ot og ng HC4 HSG hN1
  go_wp2_with fail
  refine hM.mono ?_
  clear hM d0 d1
  rintro e M0 ⟨rfl, _, hWr⟩
  have HM0 : Hid (Below A.heap.size A M0 ∧ OwnL (d + 1) M0 (.slice ua n uc) t2 fpt ∧ VmO d M0 [.slice ga0 gl0 gc0, .slice ga1 gl1 gc1] v fpg ∧ M0.heap[wh.heap.size]? = some (.cells #[.slice ga0 gl0 gc0, .slice ga1 gl1 gc1] 41 (0, 0))) := by
    have z1 := HZ1.out
    have z2 := HZ2.out
    have z3 := HZ3.out
    obtain ⟨k1, k2, k3, k4⟩ := HV4.out
    refine ⟨k1.trans ⟨hWr.os, hWr.tape, hWr.output, hWr.size, fun g hg => hWr.block g (by have := k1.size; omega) fun h => by have := (HFX.out.2 g h).1; omega⟩, k2.frame fun g hg => hWr.block g (by have := (HFT.out.2 g hg).2; omega) fun h => by have := (HFX.out.2 g h).2; have := (HFT.out.2 g hg).1; omega, VmO.lasts d _ _ _ _ _ k3 fun g hg => hWr.block g (by have := (HFG.out.2 g hg).2; omega) fun h => by have := (HFX.out.2 g h).2; have := (HFG.out.2 g hg).1; omega, (hWr.block _ (by omega) fun h => by have := (HFX.out.2 _ h).2; omega).trans k4⟩
  have hM0s : wh.heap.size < M0.heap.size := lt_row HM0.out.2.2.2
  clear hWr HV4 hGV4
  obtain ⟨N2, hN2⟩ : ∃ N, N = cntL (d + 1) t2 := ⟨_, rfl⟩
  have hN2b : N2 ≤ 1048576 := by rw [hN2]; exact HCT.out
  have hM := markTermS_any (d + 1) (.slice ua n uc) t2 fpt (1 + (N1 : Nat)) M0 HM0.out.2.1 HFT.out.1 (by omega) (by rw [← hN2]; omega)
  rw [← hN2] at hM
  obtain ⟨K1, hK1⟩ : ∃ K : Int, (1 + (N1 : Nat) : Int) = K := ⟨_, rfl⟩
  obtain ⟨K2, hK2⟩ : ∃ K : Int, (K1 + 3 * (N2 : Nat) : Int) = K := ⟨_, rfl⟩
  rw [hK1] at hM ⊢
  rw [hK2] at hM
  have hK2p : ¬ K2 < 0 := by omega
  clear hK1 hK2 hN2
  go_wp2_with fail
  refine hM.mono ?_
  clear hM
  rintro e M1 ⟨rfl, _, hWr⟩
  have HM1 : Hid (Below A.heap.size A M1 ∧ VmO d M1 [.slice ga0 gl0 gc0, .slice ga1 gl1 gc1] v fpg ∧ M1.heap[wh.heap.size]? = some (.cells #[.slice ga0 gl0 gc0, .slice ga1 gl1 gc1] 41 (0, 0))) := by
    have z1 := HZ1.out
    have z2 := HZ2.out
    have z3 := HZ3.out
    obtain ⟨k1, k2, k3, k4⟩ := HM0.out
    refine ⟨k1.trans ⟨hWr.os, hWr.tape, hWr.output, hWr.size, fun g hg => hWr.block g (by have := k1.size; omega) fun h => by have := (HFT.out.2 g h).1; omega⟩, VmO.lasts d _ _ _ _ _ k3 fun g hg => hWr.block g (by have := (HFG.out.2 g hg).2; omega) fun h => by have := (HFT.out.2 g h).2; have := (HFG.out.2 g hg).1; omega, (hWr.block _ (by omega) fun h => by have := (HFT.out.2 _ h).2; omega).trans k4⟩
  clear hWr HM0 hM0s
  have gM := HM1.out.2.2
  have wM := (HKA.out M1 HM1.out.1).2.1
  have hC := eqVm_any d [.slice ga0 gl0 gc0, .slice ga1 gl1 gc1] [.slice wa0 wl0 wc0, .slice wa1 wl1 wc1] v M1 (VmO.reads d _ _ _ _ HM1.out.2.1) (HKA.out M1 HM1.out.1).2.2.1 HWF.out
  have c0 : M1.cell? ⟨wh.heap.size, 0, none⟩ = some (.slice ga0 gl0 gc0) := by rw [cell_of_row M1 _ 0 _ _ _ gM]; rfl
  have c1 : M1.cell? ⟨wh.heap.size, 1, none⟩ = some (.slice ga1 gl1 gc1) := by rw [cell_of_row M1 _ 1 _ _ _ gM]; rfl
  have e0 : M1.cell? ⟨we.heap.size, 0, none⟩ = some (.slice wa0 wl0 wc0) := by rw [cell_of_row M1 _ 0 _ _ _ wM]; rfl
  have e1 : M1.cell? ⟨we.heap.size, 1, none⟩ = some (.slice wa1 wl1 wc1) := by rw [cell_of_row M1 _ 1 _ _ _ wM]; rfl
  clear gM wM
  go_wp2_with fail
  refine hC.mono ?_
  clear hC c0 c1 e0 e1
  rintro e V5 ⟨rfl, hb5⟩
  have HV5 : Hid (Below A.heap.size A V5 ∧ VmO d V5 [.slice ga0 gl0 gc0, .slice ga1 gl1 gc1] v fpg ∧ V5.heap[wh.heap.size]? = some (.cells #[.slice ga0 gl0 gc0, .slice ga1 gl1 gc1] 41 (0, 0))) := by
    have hs := lt_row HM1.out.2.2
    exact ⟨HM1.out.1.trans (hb5.mono HM1.out.1.size), VmO.lasts d _ _ _ _ _ HM1.out.2.1 fun g hg => hb5.block g (by have := (HFG.out.2 g hg).2; omega), (hb5.block _ hs).trans HM1.out.2.2⟩
  have hV5s : wh.heap.size < V5.heap.size := lt_row HV5.out.2.2
  clear hb5 HM1
  obtain ⟨N3, hN3⟩ : ∃ N, N = ckSVm d v := ⟨_, rfl⟩
  have hN3b : N3 ≤ 4000000 := by rw [hN3]; exact HCK.out
  have HN3 : Hid (N3 = ckSVm d v) := hN3
  have hM := markVm_any d [.slice ga0 gl0 gc0, .slice ga1 gl1 gc1] v fpg 1 V5 HV5.out.2.1 HFG.out.1 (fun g hg => by have := (HFG.out.2 g hg).2; omega) (by omega) (by rw [← hN3]; omega)
  rw [← hN3] at hM
  obtain ⟨K3, hK3⟩ : ∃ K : Int, (1 + (N3 : Nat) : Int) = K := ⟨_, rfl⟩
  have HK3 : Hid ((1 + (N3 : Nat) : Int) = K3) := hK3
  rw [hK3] at hM
  have hK3p : ¬ K3 < 0 := by omega
  have hK3n : (K3 != K3) = false := by simp
  have gV := HV5.out.2.2
  have c0 : V5.cell? ⟨wh.heap.size, 0, none⟩ = some (.slice ga0 gl0 gc0) := by rw [cell_of_row V5 _ 0 _ _ _ gV]; rfl
  have c1 : V5.cell? ⟨wh.heap.size, 1, none⟩ = some (.slice ga1 gl1 gc1) := by rw [cell_of_row V5 _ 1 _ _ _ gV]; rfl
  clear hN3 hK3 gV
  go_wp2_with fail
  refine hM.mono ?_
  clear hM c0 c1
  rintro e M2 ⟨rfl, om, hWr⟩
  have HM2 : Hid (∀ V : World, Below M2.heap.size M2 V → Below A.heap.size A V ∧ VmR d V [.slice ga0 gl0 gc0, .slice ga1 gl1 gc1] (mkSVm d 1 v) ∧ V.heap[wh.heap.size]? = some (.cells #[.slice ga0 gl0 gc0, .slice ga1 gl1 gc1] 41 (0, 0))) := fun V hV => by
    have z1 := HZ1.out
    have z2 := HZ2.out
    have z3 := HZ3.out
    obtain ⟨k1, k2, k3⟩ := HV5.out
    have j1 : Below A.heap.size A M2 := k1.trans ⟨hWr.os, hWr.tape, hWr.output, hWr.size, fun g hg => hWr.block g (by have := k1.size; omega) fun h => by have := (HFG.out.2 g h).1; omega⟩
    have j3 := (hWr.block _ hV5s fun h => by have := (HFG.out.2 _ h).2; omega).trans k3
    exact ⟨j1.trans (hV.mono j1.size), VmR.lasts d _ _ _ _ (VmO.reads d _ _ _ _ om) hV, (hV.block _ (lt_row j3)).trans j3⟩
  have HHD : Hid (∀ V : World, Below M2.heap.size M2 V → Calls Tryz.prog 21 #[.agg #[.slice ga0 gl0 gc0, .slice ga1 gl1 gc1], .int .i64 1] V fun e w' => e = .returned (.int .i64 K3) ∧ Below V.heap.size V w') := fun V hV => by
    have := heldVm_any d [.slice ga0 gl0 gc0, .slice ga1 gl1 gc1] v 1 V (HM2.out V hV).2.1 (by omega) (by rw [← HN3.out]; omega)
    rw [← HN3.out, HK3.out] at this
    exact this
  clear om hWr HV5 hV5s
  have gV := (HM2.out M2 (Below.refl _ _)).2.2
  have c0 : M2.cell? ⟨wh.heap.size, 0, none⟩ = some (.slice ga0 gl0 gc0) := by rw [cell_of_row M2 _ 0 _ _ _ gV]; rfl
  have c1 : M2.cell? ⟨wh.heap.size, 1, none⟩ = some (.slice ga1 gl1 gc1) := by rw [cell_of_row M2 _ 1 _ _ _ gV]; rfl
  clear gV
  go_wp2_with fail
  refine (HHD.out M2 (Below.refl _ _)).mono ?_
  clear c0 c1
  rintro e V6 ⟨rfl, hb6⟩
  have HC6 : Hid (Below M2.heap.size M2 V6) := hb6
  have nP6 := (HKA.out V6 (HM2.out V6 hb6).1).1
  have bw6 := (HKA.out V6 (HM2.out V6 hb6).1).2.2.2
  have b0 : V6.cell? ⟨w.heap.size, 0, none⟩ = some (.slice pa0 pl0 pc0) := by rw [cell_of_row V6 _ 0 _ _ _ nP6]; rfl
  have b1 : V6.cell? ⟨w.heap.size, 1, none⟩ = some (.slice pa1 pl1 pc1) := by rw [cell_of_row V6 _ 1 _ _ _ nP6]; rfl
  clear hb6 nP6
  go_wp2_with fail
  refine (HTX.out V6 bw6).mono ?_
  clear b0 b1
  rintro e V7 ⟨vs7, fp7, rfl, own7, _, hb7⟩
  obtain ⟨ja0, jl0, jc0, ja1, jl1, jc1, rfl⟩ := HSX.out _ _ _ own7
  have HC7 : Hid (Below M2.heap.size M2 V7) := HC6.out.trans (hb7.mono HC6.out.size)
  have HR7 : Hid (∀ V : World, Below V7.heap.size V7 V → CodeR d V [.slice ja0 jl0 jc0, .slice ja1 jl1 jc1] x0) := fun V hV => CodeR.lasts d _ _ _ _ (CodeO.reads d _ _ _ _ own7) hV
  have bw7 := (HKA.out V7 (HM2.out V7 HC7.out).1).2.2.2
  clear own7 hb7 bw6 HC6
  go_wp2_with fail
  refine (HTT.out V7 bw7).mono ?_
  rintro e V8 ⟨za, zc, fpz, rfl, HOZ, hb8⟩
  have HC8 : Hid (Below M2.heap.size M2 V8) := HC7.out.trans (hb8.mono HC7.out.size)
  have hC := implVmNew_any d _ x0 a1 za n zc t2 V8 (HR7.out V8 hb8) HF.out HZ.out (HTB.out V8 (HKA.out V8 (HM2.out V8 HC8.out).1).2.2.2) HOZ.out.1.rdq HLN.out hnb HG.out HCT.out
  clear hb8 HOZ HR7 bw7 HC7
  go_wp2_with fail
  refine hC.mono ?_
  clear hC
  rintro e V9 ⟨ha0, hl0, hc0, ha1, hl1, hc1, ok3, v3, fph, rfl, HV3, hb9⟩
  obtain ⟨rfl, rfl⟩ := HVT.out.same HV3.out.1
  have HC9 : Hid (Below M2.heap.size M2 V9) := HC8.out.trans (hb9.mono HC8.out.size)
  obtain ⟨H, hH⟩ : ∃ X, X = V9.alloc (.cells #[.slice ha0 hl0 hc0, .slice ha1 hl1 hc1] 41) := ⟨_, rfl⟩
  have bH : Below V9.heap.size V9 H := by rw [hH]; exact (Below.refl _ _).alloc (Nat.le_refl _) _
  have nH : H.heap[V9.heap.size]? = some (.cells #[.slice ha0 hl0 hc0, .slice ha1 hl1 hc1] 41 (0, 0)) := by rw [hH]; exact heap_alloc_new V9 _
  have HCH : Hid (Below M2.heap.size M2 H) := HC9.out.trans (bH.mono HC9.out.size)
  have wH := (HKA.out H (HM2.out H HCH.out).1).2.1
  have hC := eqVm_any d [.slice ha0 hl0 hc0, .slice ha1 hl1 hc1] [.slice wa0 wl0 wc0, .slice wa1 wl1 wc1] v H (VmR.lasts d _ _ _ _ (VmO.reads d _ _ _ _ HV3.out.2.1) bH) (HKA.out H (HM2.out H HCH.out).1).2.2.1 HWF.out
  have c0 : H.cell? ⟨V9.heap.size, 0, none⟩ = some (.slice ha0 hl0 hc0) := by rw [cell_of_row H _ 0 _ _ _ nH]; rfl
  have c1 : H.cell? ⟨V9.heap.size, 1, none⟩ = some (.slice ha1 hl1 hc1) := by rw [cell_of_row H _ 1 _ _ _ nH]; rfl
  have e0 : H.cell? ⟨we.heap.size, 0, none⟩ = some (.slice wa0 wl0 wc0) := by rw [cell_of_row H _ 0 _ _ _ wH]; rfl
  have e1 : H.cell? ⟨we.heap.size, 1, none⟩ = some (.slice wa1 wl1 wc1) := by rw [cell_of_row H _ 1 _ _ _ wH]; rfl
  rw [hH] at hC c0 c1 e0 e1
  have HHE : Hid (H = _) := hH
  have hwlt : we.heap.size < V9.heap.size := by have := HAN.out; have := (HM2.out V9 HC9.out).1.size; omega
  have hne : (ok != ok) = false := by cases ok <;> rfl
  clear HV3 hb9 hH bH nH wH HC8 HC9
  go_wp2_with fail
  refine hC.mono ?_
  clear hC c0 c1 e0 e1
  rintro e U1 ⟨rfl, hbU⟩
  rw [← HHE.out] at hbU
  have HCU : Hid (Below M2.heap.size M2 U1) := HCH.out.trans (hbU.mono HCH.out.size)
  have gU := (HM2.out U1 HCU.out).2.2
  have c0 : U1.cell? ⟨wh.heap.size, 0, none⟩ = some (.slice ga0 gl0 gc0) := by rw [cell_of_row U1 _ 0 _ _ _ gU]; rfl
  have c1 : U1.cell? ⟨wh.heap.size, 1, none⟩ = some (.slice ga1 gl1 gc1) := by rw [cell_of_row U1 _ 1 _ _ _ gU]; rfl
  clear hbU gU HCH HHE hwlt
  go_wp2_with fail
  refine (HHD.out U1 HCU.out).mono ?_
  clear c0 c1
  rintro e U2 ⟨rfl, hbU⟩
  have hfin : Below w.heap.size w U2 := (HKA.out U2 (HM2.out U2 (HCU.out.trans (hbU.mono HCU.out.size))).1).2.2.2
  clear hbU HCU
  go_wp2_with fail
  go_ret
  exact ⟨rfl, hfin⟩

/-- The start that the program's own text lays meets the condition. -/
theorem door_met (os : Os) (args : Array Value) : laidMetH Tryz.prog Rows.fnExactVmNewRow.laid ((World.doorLaid Tryz.prog 4000 os).forCall (fun _ _ => 0) ⟨#[], args, []⟩).memory :=
  laidMetH_of_parts3 (fuel := 8) (laidMet_of_run' 8 (by kernel_rfl) (by kernel_rfl)) (by kernel_rfl) (by kernel_rfl)

/-- What the condition gives the walk. -/
theorem of_laid {W : World} (h : laidMetH Tryz.prog Rows.fnExactVmNewRow.laid W) : ShOk W := by
  rw [MakeChecks.laidMetH_plain _ _ _ (by kernel_rfl)] at h
  exact sh_of_laid h

set_option maxRecDepth 100000 in
theorem lifted (os : Os) (started : os.Started) (H : Type) (enc : TypeId × Value → H) :
    ReturnsInHanded {} Tryz.checked os 4 .any (fun w args => (Rows.fnExactVmNewSpec.pre enc Tryz.prog Tryz.f4 [] false w args ∧ laidMetH Tryz.prog Rows.fnExactVmNewRow.laid w) ∧ sizedMet enc Tryz.prog Tryz.f4 (OpenSpec.ofChange Rows.fnExactVmNewSpec) false w args)
      (Rows.fnExactVmNewSpec.post enc Tryz.prog Tryz.f4 false true false false) := by
  refine returnsInHanded_of_change_and (C := Tryz.checked) (X := fun w _ => laidMetH Tryz.prog Rows.fnExactVmNewRow.laid w) (fun _ _ _ hh h => h.of_heap hh) own started (by kernel_rfl) Tryz.func4
    (ChangeSpec.witness_shaped (enc := enc) (C := Tryz.checked) (os := os) (X := fun w _ => laidMetH Tryz.prog Rows.fnExactVmNewRow.laid w) false (World.doorLaid Tryz.prog 4000 os) #[.agg #[.slice none 0 0, .slice none 0 0], .string ⟨#[]⟩, .slice none 0 0] 8 rfl (World.shaped_of_RefB (by kernel_rfl) (by kernel_rfl)) (by kernel_rfl) (by kernel_rfl) (by kernel_rfl) (door_met os _)) ?_
  intro W base args ds gs before hval0 hW _ _ hL _
  have hval : ∀ (j : Nat) t v, Tryz.f4.params[j]? = some t → args[j]? = some v → Value.okWide Tryz.prog W .any base t v := hval0
  have hW' := hW
  obtain ⟨p, q, hA0, hV, rfl, hfz, hnd⟩ := hW
  have hA : DataW.TrodAll enc Tryz.prog W 0 (fun _ => true) true Tryz.f4.params.toList args.toList ds p := hA0
  rw [Tryz.params4] at hA hval
  obtain ⟨v0, vs0, d0, ds0, p0, q0, hargs, rfl, rfl, h0, rr0⟩ := trodAll_cons hA
  obtain ⟨v1, vs1, d1, ds1, p1, q1, rfl, rfl, rfl, h1, rr1⟩ := trodAll_cons rr0
  obtain ⟨v2, vs2, d2, ds2, p2, q2, rfl, rfl, rfl, h2, rr2⟩ := trodAll_cons rr1
  obtain ⟨rfl, rfl, rfl⟩ := trodAll_nil rr2
  obtain rfl : args = #[v0, v1, v2] := by cases args; simp_all
  have hV0 : DataW.TrodVars enc Tryz.prog W (fun _ => true) ["loop.example/g00236/impl.shapes"] gs q := hV
  obtain ⟨_, _, _, _, dv, _, rfl, _⟩ := trodVars_one hV0
  have kk0 := h0
  have lt0 : ∀ x ∈ p0, x.block < W.heap.size := by obtain ⟨m, hm⟩ := kk0; exact DataW.trod_lt m _ _ _ hm
  obtain ⟨M0, R0⟩ := read_Code (hval 0 25 v0 rfl rfl) h0
  obtain ⟨a1, rfl, rfl, rfl, w1⟩ := open_string Tryz.underlying9 (hval 1 9 v1 rfl rfl) h1
  obtain ⟨a2, len2, cap2, rfl⟩ := okWide_slice Tryz.underlying27 (hval 2 27 v2 rfl rfl)
  have kk2 := h2
  have lt2 : ∀ x ∈ p2, x.block < W.heap.size := by obtain ⟨m, hm⟩ := kk2; exact DataW.trod_lt m _ _ _ hm
  obtain ⟨M2, hf2⟩ := h2
  obtain ⟨d, hd⟩ : ∃ d, d = max M0 M2 := ⟨_, rfl⟩
  obtain ⟨vs0, x0, rfl, r0, f0⟩ := R0 d (by omega)
  obtain ⟨t2, r2, f2⟩ := read_terms M2 (d + 1) (by omega) _ _ hf2
  clear hA0 hval0
  refine (walk d W (of_laid hL) vs0 x0 r0 f0 a1 w1 _ t2 r2 f2).mono fun e W' ⟨he, bel⟩ => ?_
  subst he
  exact ⟨_, rfl, _, _, _, [], _, _, hW', trodAll_mk1 (shut_bool Tryz.underlying4 _), (trodAll_cons_mk (Below.trod laidOut (by kernel_rfl) (of_decide_eq_true (by kernel_rfl)) kk0 bel lt0) (trodAll_cons_mk (shut_string Tryz.underlying9 w1) (trodAll_cons_mk (Below.trod laidOut (by kernel_rfl) (of_decide_eq_true (by kernel_rfl)) kk2 bel lt2) trodAll_mk0))), Below.trodVars laidOut bel (by kernel_rfl) hV0, bel.frame _, fun h => by cases h⟩

theorem over : Rows.fnExactVmNewRow.holds Tryz.pinned (OpenSpec.ofChange Rows.fnExactVmNewSpec) :=
  OpenClaim.holds_of_wide 4 Tryz.f4 rfl rfl rfl rfl rfl rfl rfl ⟨rfl, rfl, rfl, rfl, rfl⟩ rfl rfl rfl rfl rfl (by kernel_rfl) Tryz.func4 (by kernel_rfl)
    (of_decide_eq_true (by kernel_rfl)) (by unfold Func.isWrapper; first | (rw [if_pos (by decide +kernel)]; kernel_rfl) | (rw [if_neg (by decide +kernel)]; exact ⟨rfl, rfl⟩))
    (fun os started H enc _ => lifted os started H enc)

theorem card_holds : Claim7.holds Tryz.pinned (.plain (OpenSpec.ofChange Rows.fnExactVmNewSpec)) Rows.fnExactVmNewCard :=
  Claim7.holds_tied_plain_at .later [] [.data] true (true, "5a6e8707a5f783cae5b0d8a7e1b49438a7d7d34d7c6344c84817c6676e8aecd3") true
    over (fun _ h => by cases h) (by kernel_rfl) (fun _ h => by cases h) fnExactVmNew_row_tie rfl ⟨rfl, rfl⟩ (by kernel_rfl) rfl
    (fun f fn hf hfn => by
      obtain rfl : f = 4 := Option.some.inj ((show Tryz.prog.funcNamed Tryz.f4.name = some 4 by kernel_rfl).symm.trans hf) |>.symm
      obtain rfl : fn = Tryz.f4 := (Option.some.inj (Tryz.func4.symm.trans hfn)).symm
      exact ⟨by kernel_rfl, fun j t ht => by
        rw [Tryz.params4] at ht
        have hm : t ∈ [25, 9, 27] := by simpa using Array.mem_of_getElem? ht
        have hall : ([25, 9, 27].all fun u => !Tryz.prog.wantsStandIn u) = true := by kernel_rfl
        exact (show Tryz.prog.wantsStandIn t = false by simpa using List.all_eq_true.1 hall t hm)⟩)
    (by kernel_rfl)

end Go.Proofs.YtkkdnkdkelligaaGreatDoor.fnExactVmNew
namespace Go.Proofs.YtkkdnkdkelligaaGreatDoor
/-- THE STATEMENT. -/
theorem fnExactVmNew_said : Rows.FnExactVmNewCardSaid := fnExactVmNew.card_holds
#print axioms fnExactVmNew_said
end Go.Proofs.YtkkdnkdkelligaaGreatDoor
