/- What a term tells to send: at every term the program answers as the model, writes into nothing, and its answer owns its memory, behind another call too. (The frame round the walk is the guide's own way.) -/
import Derived.Test.YtfachfimdenapaaSs4M
import Derived.WalkKit
import Derived.Deep.DeepCutAuto
import Derived.ProofKit
import Derived.OpenShut
import Derived.ShutString
import Derived.ChangeOld
import Derived.Below
namespace Go.Proofs.Ytfachfimdenapaa.fnExactSendsOf
open Go.ChangeShapes Go.WideShapes Go.ChangeAt Go.RowKit
open Go.ChangeMaps (open_string shut_string)
set_option linter.unusedVariables false

theorem own : ownKnob Try.prog.godebug = none := by kernel_rfl
theorem laidOut : laidOutB Try.prog = true := by kernel_rfl

set_option maxRecDepth 100000 in
set_option maxHeartbeats 8000000 in
theorem walk (d : Nat) (w : World) (k0 n0 : Int) (s0 : ByteArray) (l0 : Value) (t0 : List (Tm (d + 1 + 1))) (wk0 : I64 k0) (wn0 : I64 n0) (ws0 : s0.size ≤ maxLen) (r0 : RdL (d + 1 + 1) w l0 t0) (f0 : WfL (d + 1 + 1) t0) :
    Calls Try.prog 5 #[.agg #[.int .i64 k0, .int .i64 n0, .string s0, l0]] w fun e w' => e = .returned (.bool true) ∧ Below w.heap.size w w' := by
  have hs : s0.size ≤ 9223372036854775807 := Nat.le_trans ws0 (by decide)
  obtain ⟨a, c, e0⟩ := r0.len1
  obtain ⟨len, hlen⟩ : ∃ len, t0.length = len := ⟨_, rfl⟩
  rw [hlen] at e0
  subst e0
  have HR : Hid (RdL (d + 1 + 1) w (.slice a len c) t0) := r0
  have HF : Hid (WfL (d + 1 + 1) t0) := f0
  have HLN : Hid (t0.length = len) := hlen
  clear r0 f0 hlen
  go_enter Try.func5, Try.ntmps5
  go_wp2_with fail
  have bel1 : Below w.heap.size w (w.alloc (.cells #[.int .i64 k0, .int .i64 n0, .string s0, .slice a len c] 24)) := (Below.refl _ _).alloc (Nat.le_refl _) _
  have hcel : (w.alloc (.cells #[.int .i64 k0, .int .i64 n0, .string s0, .slice a len c] 24)).heap[w.heap.size]? = some (.cells #[.int .i64 k0, .int .i64 n0, .string s0, .slice a len c] 24 (0, 0)) := heap_alloc_new w _
  refine (szTerm_of (d + 1 + 1) (szTermS_any (d + 1 + 1)) k0 n0 s0 _ t0 1048576 _ (HR.out.later bel1) HF.out ws0 (by omega) (by omega)).mono ?_
  rintro e wa ⟨rfl, bela⟩
  have boxa := (bela.block _ (by simp)).trans hcel
  have belA : Below w.heap.size w wa := bel1.trans (bela.mono bel1.size)
  clear bel1 hcel bela
  by_cases hz : s0.size + szL (d + 1 + 1) t0 ≤ 1048576
  case neg =>
    have hl : lft 1048576 (s0.size + szL (d + 1 + 1) t0) = -1 := by unfold lft; rw [if_neg (by omega)]
    rw [hl]
    clear hz hl
    go_wp2_with fail
    go_ret
    exact ⟨rfl, belA⟩
  have hl : ∃ x : Int, lft 1048576 (s0.size + szL (d + 1 + 1) t0) = x ∧ 0 ≤ x := ⟨_, rfl, by unfold lft; rw [if_pos (by omega)]; omega⟩
  obtain ⟨x, hx, hx0⟩ := hl
  rw [hx]
  have HZ : Hid (szL (d + 1 + 1) t0 ≤ 1048576) := by show _ ≤ _; omega
  have HCT : Hid (cntL (d + 1 + 1) t0 ≤ 1048576) := Nat.le_trans (cntL_szL (d + 1 + 1) t0) HZ.out
  have HFW : Hid (FewL (d + 1 + 1) t0) := few_sz _ _ HZ.out
  have hlen1 : len ≤ 1048576 := by have := len_cnt t0; have := HCT.out; have := HLN.out; omega
  clear hz hx
  have HTO : Hid (∀ V : World, Below w.heap.size w V → Calls Try.prog 13 #[.agg #[.int .i64 k0, .int .i64 n0, .string s0, .slice a len c]] V fun e w' => ∃ a2 c2 fp, e = .returned (.agg #[.int .i64 k0, .int .i64 n0, .string s0, .slice a2 len c2]) ∧ Hid (OwnL (d + 1 + 1) w' (.slice a2 len c2) t0 fp ∧ Fresh V.heap.size w' fp) ∧ Below V.heap.size V w') := fun V hV => by
    refine (toTerm_of (d + 1 + 1) (toTermS_any (d + 1 + 1)) k0 n0 s0 _ t0 V (HR.out.later hV) HF.out HZ.out).mono ?_
    rintro e w' ⟨a1, l1, c1', fp1, rfl, own1, fr1, belb⟩
    obtain ⟨a', c', e1⟩ := own1.rd.len1
    have e2 : l1 = len := by rw [← HLN.out]; simpa using (Value.slice.inj e1).2.1
    subst e2
    exact ⟨a1, c1', fp1, rfl, ⟨own1, fr1⟩, belb⟩
  have b0 : wa.cell? ⟨w.heap.size, 0, none⟩ = some (.int .i64 k0) := by rw [cell_of_row wa _ 0 _ _ _ boxa]; rfl
  have b1 : wa.cell? ⟨w.heap.size, 1, none⟩ = some (.int .i64 n0) := by rw [cell_of_row wa _ 1 _ _ _ boxa]; rfl
  have b2 : wa.cell? ⟨w.heap.size, 2, none⟩ = some (.string s0) := by rw [cell_of_row wa _ 2 _ _ _ boxa]; rfl
  have b3 : wa.cell? ⟨w.heap.size, 3, none⟩ = some (.slice a len c) := by rw [cell_of_row wa _ 3 _ _ _ boxa]; rfl
  go_wp2_with fail
  refine (HTO.out wa belA).mono ?_
  rintro e wb ⟨a1, c1, fp1, rfl, HO1, belb⟩
  have belB : Below w.heap.size w wb := belA.trans (belb.mono belA.size)
  have hwz : w.heap.size < wa.heap.size := lt_row boxa
  have hC := specSendsOf_any d k0 n0 s0 a1 len c1 t0 wb HO1.out.1.rd HF.out HFW.out HLN.out hlen1
  clear b0 b1 b2 b3
  go_wp2_with fail
  refine hC.mono ?_
  clear hC
  rintro e wy ⟨aS, nS, cS, ok, lS, rfl, HSM, belc⟩
  have HST : Hid (SendsT d k0 t0 ok lS) := HSM.out.1
  have HWF : Hid (WfRow (WfSend d) lS) := HST.out.wf HF.out
  have HCK : Hid ((lS.map (ckSend d)).sum ≤ 3 * 1048576) := Nat.le_trans HST.out.ck (by have := HCT.out; omega)
  have HSL : Hid (lS.length ≤ 1099511627776) := by have := HST.out.len; have := HLN.out; show _ ≤ _; omega
  have boxc := ((belc.block _ (Nat.lt_of_lt_of_le hwz belb.size)).trans (belb.block _ hwz)).trans boxa
  have belC : Below w.heap.size w wy := belB.trans (belc.mono belB.size)
  have HKA : Hid (∀ V : World, Below wy.heap.size wy V → V.heap[w.heap.size]? = some (.cells #[.int .i64 k0, .int .i64 n0, .string s0, .slice a len c] 24 (0, 0)) ∧ RowOf 8 (SendR d) V (.slice aS nS cS) lS ∧ Below w.heap.size w V) := fun V hV =>
    ⟨(hV.block _ (lt_row boxc)).trans boxc, HSM.out.2.1.later (SendR.lasts d) hV, belC.trans (hV.mono belC.size)⟩
  have hwy : w.heap.size < wy.heap.size := lt_row boxc
  clear HO1 belb belc belA belB boxa hwz HSM
  have b0 : wy.cell? ⟨w.heap.size, 0, none⟩ = some (.int .i64 k0) := by rw [cell_of_row wy _ 0 _ _ _ boxc]; rfl
  have b1 : wy.cell? ⟨w.heap.size, 1, none⟩ = some (.int .i64 n0) := by rw [cell_of_row wy _ 1 _ _ _ boxc]; rfl
  have b2 : wy.cell? ⟨w.heap.size, 2, none⟩ = some (.string s0) := by rw [cell_of_row wy _ 2 _ _ _ boxc]; rfl
  have b3 : wy.cell? ⟨w.heap.size, 3, none⟩ = some (.slice a len c) := by rw [cell_of_row wy _ 3 _ _ _ boxc]; rfl
  go_wp2_with fail
  refine (HTO.out wy belC).mono ?_
  clear b0 b1 b2 b3 boxc belC
  rintro e wd ⟨a2, c2, fp, rfl, HO2, beld⟩
  obtain ⟨we, hwe⟩ : ∃ we, we = wd.alloc (.cells #[.int .i64 k0, .int .i64 n0, .string s0, .slice a2 len c2] 31) := ⟨_, rfl⟩
  have bele : Below wd.heap.size wd we := by rw [hwe]; exact (Below.refl _ _).alloc (Nat.le_refl _) _
  have hxe : we.heap[wd.heap.size]? = some (.cells #[.int .i64 k0, .int .i64 n0, .string s0, .slice a2 len c2] 31 (0, 0)) := by rw [hwe]; exact heap_alloc_new wd _
  have hye : Below wy.heap.size wy we := beld.trans (bele.mono beld.size)
  have hoe : OwnL (d + 1 + 1) we (.slice a2 len c2) t0 fp := HO2.out.1.frame fun g hg => bele.block g (HO2.out.2.2 g hg).2
  have HFP : Hid (fp.Nodup ∧ ∀ g ∈ fp, wy.heap.size ≤ g ∧ g < wd.heap.size) := HO2.out.2
  have hze : wd.heap.size < we.heap.size := lt_row hxe
  have hydz : wy.heap.size ≤ wd.heap.size := beld.size
  have hC := implSendsOf_any d k0 n0 s0 a2 len c2 t0 we hoe.rdq hoe.rd HF.out HLN.out HCT.out
  rw [hwe] at hC
  have HWE : Hid (we = _) := hwe
  clear hwe bele beld HO2
  go_wp2_with fail
  refine hC.mono ?_
  clear hC
  rintro e wf ⟨aG, nG, cG, ok2, lG, fpG, rfl, HG, belf⟩
  rw [← HWE.out] at belf HG
  obtain ⟨rfl, rfl⟩ := HST.out.same HG.out.1
  have HFG : Hid (fpG.Nodup ∧ ∀ g ∈ fpG, we.heap.size ≤ g ∧ g < wf.heap.size) := HG.out.2.2.1
  have HSG : Hid (∀ V : World, Below wf.heap.size wf V → V.heap[wd.heap.size]? = some (.cells #[.int .i64 k0, .int .i64 n0, .string s0, .slice a2 len c2] 31 (0, 0)) ∧ OwnL (d + 1 + 1) V (.slice a2 len c2) t0 fp ∧ OwnRow 8 65 (SendO d) V (.slice aG nG cG) lS fpG ∧ Below wy.heap.size wy V) := fun V hV =>
    ⟨((hV.block _ (Nat.lt_of_lt_of_le hze belf.size)).trans (belf.block _ hze)).trans hxe, hoe.frame fun g hg => (hV.block g (Nat.lt_of_lt_of_le (Nat.lt_trans (HFP.out.2 g hg).2 hze) belf.size)).trans (belf.block g (Nat.lt_trans (HFP.out.2 g hg).2 hze)), HG.out.2.1.frame (SendO.lasts d) fun g hg => hV.block g (HFG.out.2 g hg).2, hye.trans ((belf.trans (hV.mono belf.size)).mono hye.size)⟩
  have hef : we.heap.size ≤ wf.heap.size := belf.size
  have hne : (ok != ok) = false := by cases ok <;> rfl
  have hS := HSG.out wf (Below.refl _ _)
  have hC := eqSendS_any d (.slice aG nG cG) (.slice aS nS cS) lS wf (hS.2.2.1.rd (SendO.reads d)) (HKA.out wf hS.2.2.2).2.1 HWF.out
  clear belf HG hoe HWE hxe hye hS
  go_wp2_with fail
  refine hC.mono ?_
  clear hC
  rintro e wg ⟨rfl, belg⟩
  have HBG : Hid (Below wf.heap.size wf wg) := belg
  have hS := HSG.out wg belg
  have hK := HKA.out wg hS.2.2.2
  have b0 : wg.cell? ⟨w.heap.size, 0, none⟩ = some (.int .i64 k0) := by rw [cell_of_row wg _ 0 _ _ _ hK.1]; rfl
  have b1 : wg.cell? ⟨w.heap.size, 1, none⟩ = some (.int .i64 n0) := by rw [cell_of_row wg _ 1 _ _ _ hK.1]; rfl
  have b2 : wg.cell? ⟨w.heap.size, 2, none⟩ = some (.string s0) := by rw [cell_of_row wg _ 2 _ _ _ hK.1]; rfl
  have b3 : wg.cell? ⟨w.heap.size, 3, none⟩ = some (.slice a len c) := by rw [cell_of_row wg _ 3 _ _ _ hK.1]; rfl
  have e0 : wg.cell? ⟨wd.heap.size, 0, none⟩ = some (.int .i64 k0) := by rw [cell_of_row wg _ 0 _ _ _ hS.1]; rfl
  have e1 : wg.cell? ⟨wd.heap.size, 1, none⟩ = some (.int .i64 n0) := by rw [cell_of_row wg _ 1 _ _ _ hS.1]; rfl
  have e2 : wg.cell? ⟨wd.heap.size, 2, none⟩ = some (.string s0) := by rw [cell_of_row wg _ 2 _ _ _ hS.1]; rfl
  have e3 : wg.cell? ⟨wd.heap.size, 3, none⟩ = some (.slice a2 len c2) := by rw [cell_of_row wg _ 3 _ _ _ hS.1]; rfl
  have HT0 : Hid (∀ X : World, Below wg.heap.size wg X → Calls Try.prog 13 #[.agg #[.int .i64 k0, .int .i64 n0, .string s0, .slice a len c]] X fun e V => ∃ a3 c3, e = .returned (.agg #[.int .i64 k0, .int .i64 n0, .string s0, .slice a3 len c3]) ∧ Hid (RdL (d + 1 + 1) V (.slice a3 len c3) t0) ∧ Below wg.heap.size wg V) := fun X hX => by
    refine (HTO.out X (HKA.out X (HSG.out X (HBG.out.trans (hX.mono HBG.out.size))).2.2.2).2.2).mono ?_
    rintro e V ⟨a3, c3, fp3, rfl, HO3, hB⟩
    exact ⟨a3, c3, rfl, HO3.out.1.rd, hX.trans (hB.mono hX.size)⟩
  have HEX : Hid (∀ (V : World) (a3 : Option Addr) (c3 : Nat), Below wg.heap.size wg V → RdL (d + 1 + 1) V (.slice a3 len c3) t0 → _) := fun V a3 c3 hV h => eqTerm_of (d + 1 + 1) (eqTermS_any (d + 1 + 1)) k0 n0 s0 (.slice a2 len c2) (.slice a3 len c3) t0 V (HSG.out V (HBG.out.trans (hV.mono HBG.out.size))).2.1.rd h HF.out
  have hlst : Hid (Below wg.heap.size wg wg.drew) := (Below.refl _ _).drew
  clear belg hS hK
  go_wp2_with fail
  go_cut [45] (fun v wx => v = .bool false ∧ Hid (Below wg.heap.size wg wx))
  case first =>
    go_region_with (first | (go_at_call 13; refine (HT0.out _ hlst.out).mono ?_; rintro e V ⟨a3, c3, rfl, HR3, hB⟩; have f0 := cell_later hB e0; have f1 := cell_later hB e1; have f2 := cell_later hB e2; have f3 := cell_later hB e3) | (go_at_call 15; refine (HEX.out V a3 c3 hB HR3.out).mono ?_; rintro e V2 ⟨rfl, hB2⟩))
    all_goals
      have hbf : Hid (Below wg.heap.size wg V2) := hB.trans (hB2.mono hB.size)
      clear hB hB2 HR3
      go_wp2_with fail
      go_meet
      case rel => exact ⟨rfl, hbf⟩
  case rest =>
    obtain ⟨hu, belh⟩ := hcut
    obtain ⟨wh, hwh⟩ : ∃ w, w = wc := ⟨_, rfl⟩
    rw [← hwh] at belh ⊢
    rw [hu]
    have HBH : Hid (Below wf.heap.size wf wh) := HBG.out.trans (belh.out.mono HBG.out.size)
    have hS := HSG.out wh HBH.out
    have hfh : wf.heap.size ≤ wh.heap.size := HBH.out.size
    clear belh HBG hlst HT0 HEX b0 b1 b2 b3 e0 e1 e2 e3 hu hwh
    have e0 : wh.cell? ⟨wd.heap.size, 0, none⟩ = some (.int .i64 k0) := by rw [cell_of_row wh _ 0 _ _ _ hS.1]; rfl
    have e1 : wh.cell? ⟨wd.heap.size, 1, none⟩ = some (.int .i64 n0) := by rw [cell_of_row wh _ 1 _ _ _ hS.1]; rfl
    have e2 : wh.cell? ⟨wd.heap.size, 2, none⟩ = some (.string s0) := by rw [cell_of_row wh _ 2 _ _ _ hS.1]; rfl
    have e3 : wh.cell? ⟨wd.heap.size, 3, none⟩ = some (.slice a2 len c2) := by rw [cell_of_row wh _ 3 _ _ _ hS.1]; rfl
    have hmk := markTerm_of (d + 1 + 1) k0 n0 s0 a2 len c2 t0 fp 1 wh hS.2.1 HFP.out.1 (by omega) (by have := HCT.out; omega)
    obtain ⟨N1, hN1⟩ : ∃ N, N = cntL (d + 1 + 1) t0 := ⟨_, rfl⟩
    have hN1b : N1 ≤ 1048576 := by rw [hN1]; exact HCT.out
    rw [← hN1] at hmk
    obtain ⟨K1, hK1⟩ : ∃ K : Int, (1 + 3 * (N1 : Nat) : Int) = K := ⟨_, rfl⟩
    rw [hK1] at hmk
    have hK1p : ¬ K1 < 0 := by omega
    clear hK1 hN1 hS
    go_wp2_with fail
    refine hmk.mono ?_
    clear hmk e0 e1 e2 e3
    rintro e wi ⟨rfl, _, hWr⟩
    have HS2 : Hid (∀ V : World, Below wi.heap.size wi V → OwnRow 8 65 (SendO d) V (.slice aG nG cG) lS fpG ∧ Below wy.heap.size wy V) := fun V hV => by
      have hS := HSG.out wh HBH.out
      have hby : Below wy.heap.size wy wi := hS.2.2.2.trans ⟨hWr.os, hWr.tape, hWr.output, hWr.size, fun g hg => hWr.block g (by have := hS.2.2.2.size; omega) fun h => by have := (HFP.out.2 g h).1; omega⟩
      exact ⟨hS.2.2.1.frame (SendO.lasts d) fun g hg => (hV.block g (Nat.lt_of_lt_of_le (HFG.out.2 g hg).2 (Nat.le_trans hfh hWr.size))).trans (hWr.block g (Nat.lt_of_lt_of_le (HFG.out.2 g hg).2 hfh) fun h => by have := (HFP.out.2 g h).2; have := (HFG.out.2 g hg).1; omega), hby.trans (hV.mono hby.size)⟩
    have hiz : wh.heap.size ≤ wi.heap.size := hWr.size
    clear hWr HSG HBH
    have hS := HS2.out wi (Below.refl _ _)
    have hC := eqSendS_any d (.slice aG nG cG) (.slice aS nS cS) lS wi (hS.1.rd (SendO.reads d)) (HKA.out wi hS.2).2.1 HWF.out
    clear hS
    go_wp2_with fail
    refine hC.mono ?_
    clear hC
    rintro e wj ⟨rfl, belj⟩
    have HBJ : Hid (Below wi.heap.size wi wj) := belj
    obtain ⟨N3, hN3⟩ : ∃ N, N = (lS.map (ckSend d)).sum := ⟨_, rfl⟩
    have hN3b : N3 ≤ 3 * 1048576 := by rw [hN3]; exact HCK.out
    have HN3 : Hid (N3 = (lS.map (ckSend d)).sum) := hN3
    have hM := markSendS_any d (.slice aG nG cG) lS fpG 1 wj (HS2.out wj belj).1 HFG.out.1 (fun g hg => by have := (HFG.out.2 g hg).2; have := belj.size; omega) (by omega) (by rw [← hN3]; omega) HSL.out
    rw [← hN3] at hM
    obtain ⟨K3, hK3⟩ : ∃ K : Int, (1 + (N3 : Nat) : Int) = K := ⟨_, rfl⟩
    have HK3 : Hid ((1 + (N3 : Nat) : Int) = K3) := hK3
    rw [hK3] at hM
    have hK3p : ¬ K3 < 0 := by omega
    have hK3n : (K3 != K3) = false := by simp
    clear hN3 hK3 belj
    go_wp2_with fail
    refine hM.mono ?_
    clear hM
    rintro e wk ⟨rfl, om, hWr⟩
    have HM2 : Hid (∀ V : World, Below wk.heap.size wk V → Below wy.heap.size wy V ∧ RowOf 8 (SendR d) V (.slice aG nG cG) (mkL (mkSend d) (ckSend d) 1 lS)) := fun V hV => by
      have j0 := (HS2.out wj HBJ.out).2
      have j1 : Below wy.heap.size wy wk := j0.trans ⟨hWr.os, hWr.tape, hWr.output, hWr.size, fun g hg => hWr.block g (by have := j0.size; omega) fun h => by have := (HFG.out.2 g h).1; omega⟩
      exact ⟨j1.trans (hV.mono j1.size), (om.rd (SendO.reads d)).later (SendR.lasts d) hV⟩
    have HHD : Hid (∀ V : World, Below wk.heap.size wk V → Calls Try.prog 23 #[.slice aG nG cG, .int .i64 1] V fun e w' => e = .returned (.int .i64 K3) ∧ Below V.heap.size V w') := fun V hV => by
      have := heldSendS_any d (.slice aG nG cG) lS 1 V (HM2.out V hV).2 (by omega) (by rw [← HN3.out]; omega) HSL.out
      rw [← HN3.out, HK3.out] at this
      exact this
    clear om hWr HS2 HBJ
    go_wp2_with fail
    refine (HHD.out wk (Below.refl _ _)).mono ?_
    rintro e wl ⟨rfl, hbl⟩
    have HCL : Hid (Below wk.heap.size wk wl) := hbl
    have hK := HKA.out wl (HM2.out wl hbl).1
    have b0 : wl.cell? ⟨w.heap.size, 0, none⟩ = some (.int .i64 k0) := by rw [cell_of_row wl _ 0 _ _ _ hK.1]; rfl
    have b1 : wl.cell? ⟨w.heap.size, 1, none⟩ = some (.int .i64 n0) := by rw [cell_of_row wl _ 1 _ _ _ hK.1]; rfl
    have b2 : wl.cell? ⟨w.heap.size, 2, none⟩ = some (.string s0) := by rw [cell_of_row wl _ 2 _ _ _ hK.1]; rfl
    have b3 : wl.cell? ⟨w.heap.size, 3, none⟩ = some (.slice a len c) := by rw [cell_of_row wl _ 3 _ _ _ hK.1]; rfl
    have belL := hK.2.2
    clear hbl hK
    go_wp2_with fail
    refine (HTO.out wl belL).mono ?_
    clear b0 b1 b2 b3 belL
    rintro e wm ⟨a4, c4, fp4, rfl, HO4, belm⟩
    have HCM : Hid (Below wk.heap.size wk wm) := HCL.out.trans (belm.mono HCL.out.size)
    have hC := implSendsOf_any d k0 n0 s0 a4 len c4 t0 wm HO4.out.1.rdq HO4.out.1.rd HF.out HLN.out HCT.out
    clear belm HO4 HCL
    go_wp2_with fail
    refine hC.mono ?_
    clear hC
    rintro e wn ⟨aH, nH, cH, ok3, lH, fpH, rfl, HH, beln⟩
    obtain ⟨rfl, rfl⟩ := HST.out.same HH.out.1
    have HCN : Hid (Below wk.heap.size wk wn) := HCM.out.trans (beln.mono HCM.out.size)
    have hC := eqSendS_any d (.slice aH nH cH) (.slice aS nS cS) lS wn (HH.out.2.1.rd (SendO.reads d)) (HKA.out wn (HM2.out wn HCN.out).1).2.1 HWF.out
    have hne : (ok != ok) = false := by cases ok <;> rfl
    clear beln HH HCM
    go_wp2_with fail
    refine hC.mono ?_
    clear hC
    rintro e wo ⟨rfl, belo⟩
    have HCO : Hid (Below wk.heap.size wk wo) := HCN.out.trans (belo.mono HCN.out.size)
    clear belo HCN
    go_wp2_with fail
    refine (HHD.out wo HCO.out).mono ?_
    rintro e wq ⟨rfl, belq⟩
    have hfin : Below w.heap.size w wq := (HKA.out wq (HM2.out wq (HCO.out.trans (belq.mono HCO.out.size))).1).2.2
    clear belq HCO
    go_wp2_with fail
    go_ret
    exact ⟨rfl, hfin⟩

set_option maxRecDepth 100000 in
theorem lifted (os : Os) (started : os.Started) (H : Type) (enc : TypeId × Value → H) :
    ReturnsInHanded {} Try.checked os 5 .any (Rows.fnExactSendsOfSpec.pre6 enc Try.prog Try.f5 Rows.fnExactSendsOfRow.domain false) (Rows.fnExactSendsOfSpec.post enc Try.prog Try.f5 false true false false) := by
  refine returnsInHanded_of_change (C := Try.checked) own started (by kernel_rfl) Try.func5
    (ChangeSpec.witness6 (enc := enc) (C := Try.checked) false ⟨#[], #[.agg #[.int .i64 0, .int .i64 0, .string ⟨#[]⟩, .slice none 0 0]], []⟩ 8 (by kernel_rfl) (by kernel_rfl) (by kernel_rfl) (by kernel_rfl)) ?_
  intro W base args ds gs before hval0 hW hcnd _
  have hval : ∀ (j : Nat) t v, Try.f5.params[j]? = some t → args[j]? = some v → Value.okWide Try.prog W .any base t v := hval0
  have hW' := hW
  obtain ⟨p, q, hA0, hV, rfl, hfz, hnd⟩ := hW
  have hA : DataW.TrodAll enc Try.prog W 0 (fun _ => true) true Try.f5.params.toList args.toList ds p := hA0
  rw [Try.params5] at hA hval
  obtain ⟨v0, vs0, d0, ds0, p0, q0, hargs, rfl, rfl, h0, rr0⟩ := trodAll_cons hA
  obtain ⟨rfl, rfl, rfl⟩ := trodAll_nil rr0
  obtain rfl : args = #[v0] := by cases args; simp_all
  obtain ⟨rfl, rfl⟩ := trodVars_none hV
  have kk0 := h0
  have lt0 : ∀ x ∈ p0, x.block < W.heap.size := by obtain ⟨m, hm⟩ := kk0; exact DataW.trod_lt m _ _ _ hm
  obtain ⟨M0, R0⟩ := read_term (hval 0 24 v0 rfl rfl) h0
  obtain ⟨d, hd⟩ : ∃ d, d = M0 := ⟨_, rfl⟩
  obtain ⟨k0, n0, s0, l0, t0, rfl, wk0, wn0, ws0, r0, f0⟩ := R0 (d + 1 + 1) (by omega)
  clear hA0 hval0
  refine (walk d W k0 n0 s0 l0 t0 wk0 wn0 ws0 r0 f0).mono fun e W' ⟨he, bel⟩ => ?_
  subst he
  exact ⟨_, rfl, _, _, _, [], _, [], hW', trodAll_mk1 (shut_bool Try.underlying4 _), (trodAll_cons_mk (Below.trod laidOut (by kernel_rfl) (of_decide_eq_true (by kernel_rfl)) kk0 bel lt0) trodAll_mk0), rfl, bel.frame _, fun h => by cases h⟩

theorem over : Rows.fnExactSendsOfRow.holds Try.pinned (OpenSpec.ofChange Rows.fnExactSendsOfSpec) :=
  OpenClaim.holds_of_wide 5 Try.f5 rfl rfl rfl rfl rfl rfl rfl ⟨rfl, rfl, rfl, rfl, rfl⟩ rfl rfl rfl rfl rfl (by kernel_rfl) Try.func5 (by kernel_rfl)
    (of_decide_eq_true (by kernel_rfl)) (by unfold Func.isWrapper; first | (rw [if_pos (by decide +kernel)]; kernel_rfl) | (rw [if_neg (by decide +kernel)]; exact ⟨rfl, rfl⟩))
    (fun os started H enc _ => lifted os started H enc)

end Go.Proofs.Ytfachfimdenapaa.fnExactSendsOf
namespace Go.Proofs.Ytfachfimdenapaa
/-- THE STATEMENT. -/
theorem fnExactSendsOf_said : Rows.FnExactSendsOfSaid := fnExactSendsOf.over
#print axioms fnExactSendsOf_said
end Go.Proofs.Ytfachfimdenapaa
