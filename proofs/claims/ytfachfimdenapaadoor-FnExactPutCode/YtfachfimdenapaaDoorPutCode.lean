/- Code put to bytes: at every code the program answers as the model, writes into nothing, and its answer owns its memory, behind another call too; the table of shapes is as the program's own text lays it (the card ties it). (The frame round the walk is the guide's own way.) -/
import Derived.Test.YtfachfimdenapaaDoorPc11M
import Derived.Test.YtfachfimdenapaaDoorPc2M
import Derived.Test.YtfachfimdenapaaDoorCk5M
import Derived.Test.YtfachfimdenapaaDoorTmM
import Derived.Test.YtfachfimdenapaaDoorTie
import Derived.Test.YtfachfimdenapaaDoorCards
import Derived.WalkKit
import Derived.Deep.DeepCutAuto
import Derived.ProofKit
import Derived.LaidMore
import Derived.OpenVars
import Derived.ChangeVars
import Derived.OpenShut
import Derived.ShutString
import Derived.ChangeOld
import Derived.Below
import Derived.Stop.Joined
import Derived.Stop.LaidErr
import Derived.SevenTiedAt
namespace Go.Proofs.YtfachfimdenapaaDoor.fnExactPutCode
open Go.ChangeShapes Go.WideShapes Go.ChangeAt Go.RowKit
open Go.ChangeMaps (open_string shut_string)
set_option linter.unusedVariables false

theorem own : ownKnob Tryd.prog.godebug = none := by kernel_rfl
theorem laidOut : laidOutB Tryd.prog = true := by kernel_rfl

set_option maxRecDepth 100000 in
set_option maxHeartbeats 8000000 in
theorem walk (d : Nat) (w : World) (htab : ShOk w) (vs0 : List Value) (x0 : DCode d) (r0 : CodeR d w vs0 x0) (f0 : WfCode d x0) :
    Calls Tryd.prog 3 #[.agg vs0.toArray] w fun e w' => e = .returned (.bool true) ∧ Below w.heap.size w w' := by
  have HTB : Hid (∀ V : World, Below w.heap.size w V → ShOk V) := fun V hV => htab.later hV
  clear htab
  obtain ⟨pa0, pl0, pc0, pa1, pl1, pc1, rfl⟩ := CodeR.shape d _ _ _ r0
  have HR : Hid (∀ V : World, Below w.heap.size w V → CodeR d V [.slice pa0 pl0 pc0, .slice pa1 pl1 pc1] x0) := fun V hV => CodeR.lasts d _ _ _ _ r0 hV
  have HF : Hid (WfCode d x0) := f0
  have HSX : Hid (∀ (V : World) (vs : List Value) (fp : List Nat), CodeO d V vs x0 fp → ShCode vs) := fun V vs fp h => CodeO.shape d V vs x0 fp h
  obtain ⟨W0, hW0⟩ : ∃ W, W = w.alloc (.cells #[.slice pa0 pl0 pc0, .slice pa1 pl1 pc1] 25) := ⟨_, rfl⟩
  have bel0 : Below w.heap.size w W0 := by rw [hW0]; exact (Below.refl _ _).alloc (Nat.le_refl _) _
  have box0 : W0.heap[w.heap.size]? = some (.cells #[.slice pa0 pl0 pc0, .slice pa1 pl1 pc1] 25 (0, 0)) := by rw [hW0]; exact heap_alloc_new w _
  have hC := szCode_any d [.slice pa0 pl0 pc0, .slice pa1 pl1 pc1] x0 1048576 W0 (HR.out W0 bel0) HF.out (by omega) (by omega)
  rw [hW0] at hC
  have HW0 : Hid (W0 = _) := hW0
  clear r0 f0 hW0
  go_enter Tryd.func3, Tryd.ntmps3
  go_wp2_with fail
  refine hC.mono ?_
  clear hC
  rintro e wa ⟨rfl, bela⟩
  rw [← HW0.out] at bela
  have boxa := (bela.block _ (lt_row box0)).trans box0
  have belA : Below w.heap.size w wa := bel0.trans (bela.mono bel0.size)
  clear bel0 bela box0 HW0
  by_cases hz : szCodeD d x0 ≤ 1048576
  case neg =>
    have hl : lft 1048576 (szCodeD d x0) = -1 := by unfold lft; rw [if_neg (by omega)]
    rw [hl]
    clear hz hl boxa
    go_wp2_with fail
    go_ret
    exact ⟨rfl, belA⟩
  obtain ⟨x, hx, hxp⟩ : ∃ x : Int, lft 1048576 (szCodeD d x0) = x ∧ 0 ≤ x := ⟨_, rfl, by unfold lft; rw [if_pos (by omega)]; omega⟩
  rw [hx]
  have HZ : Hid (szCodeD d x0 ≤ 1048576) := hz
  clear hz hx
  have HTX : Hid (∀ V : World, Below w.heap.size w V → _) := fun V hV => toCode_any d [.slice pa0 pl0 pc0, .slice pa1 pl1 pc1] x0 V (HR.out V hV) HF.out HZ.out
  have b0 : wa.cell? ⟨w.heap.size, 0, none⟩ = some (.slice pa0 pl0 pc0) := by rw [cell_of_row wa _ 0 _ _ _ boxa]; rfl
  have b1 : wa.cell? ⟨w.heap.size, 1, none⟩ = some (.slice pa1 pl1 pc1) := by rw [cell_of_row wa _ 1 _ _ _ boxa]; rfl
  go_wp2_with fail
  refine (HTX.out wa belA).mono ?_
  rintro e wb ⟨vs1, fp1, rfl, own1, _, belb⟩
  obtain ⟨sa0, sl0, sc0, sa1, sl1, sc1, rfl⟩ := HSX.out _ _ _ own1
  have belB : Below w.heap.size w wb := belA.trans (belb.mono belA.size)
  have hwz : w.heap.size < wa.heap.size := lt_row boxa
  have hC := specPutCode_any d _ x0 wb (CodeO.reads d _ _ _ _ own1) HF.out HZ.out
  clear b0 b1
  go_wp2_with fail
  refine hC.mono ?_
  clear hC
  rintro e wy ⟨gS, cS, xs, rfl, HXS, ownS, belc⟩
  have hxl := pcx_len HXS.out HZ.out
  obtain ⟨vS, hvS⟩ : ∃ vS, Value.slice (some ⟨gS, 0, none⟩) xs.length cS = vS := ⟨_, rfl⟩
  rw [hvS] at ownS ⊢
  have HVS : Hid (vS = .slice (some ⟨gS, 0, none⟩) xs.length cS) := hvS.symm
  have hgS : gS < wy.heap.size := own_lt (by rw [← hvS] at ownS; exact ownS)
  have HOS : Hid (wy.ownsRow wb.heap.size 5 1 vS xs.length (xs.map (Value.int .u8))) := ownS
  have boxc := ((belc.block _ (Nat.lt_of_lt_of_le hwz belb.size)).trans (belb.block _ hwz)).trans boxa
  have belC : Below w.heap.size w wy := belB.trans (belc.mono belB.size)
  have hwzc : w.heap.size < wy.heap.size := Nat.lt_of_lt_of_le hwz (Nat.le_trans belb.size belc.size)
  have hbc : wb.heap.size ≤ wy.heap.size := belc.size
  clear own1 belb belc belA belB boxa hwz hvS ownS
  have b0 : wy.cell? ⟨w.heap.size, 0, none⟩ = some (.slice pa0 pl0 pc0) := by rw [cell_of_row wy _ 0 _ _ _ boxc]; rfl
  have b1 : wy.cell? ⟨w.heap.size, 1, none⟩ = some (.slice pa1 pl1 pc1) := by rw [cell_of_row wy _ 1 _ _ _ boxc]; rfl
  go_wp2_with fail
  refine (HTX.out wy belC).mono ?_
  rintro e wd ⟨vs2, fp, rfl, own2, fr2, beld⟩
  obtain ⟨ra0, rl0, rc0, ra1, rl1, rc1, rfl⟩ := HSX.out _ _ _ own2
  have belD : Below w.heap.size w wd := belC.trans (beld.mono belC.size)
  clear b0 b1
  obtain ⟨we, hwe⟩ : ∃ we, we = wd.alloc (.cells #[.slice ra0 rl0 rc0, .slice ra1 rl1 rc1] 32) := ⟨_, rfl⟩
  have bele : Below wd.heap.size wd we := by rw [hwe]; exact (Below.refl _ _).alloc (Nat.le_refl _) _
  have belE : Below w.heap.size w we := belD.trans (bele.mono belD.size)
  have hxe : we.heap[wd.heap.size]? = some (.cells #[.slice ra0 rl0 rc0, .slice ra1 rl1 rc1] 32 (0, 0)) := by rw [hwe]; exact heap_alloc_new wd _
  have hcele := ((bele.block _ (Nat.lt_of_lt_of_le hwzc beld.size)).trans (beld.block _ hwzc)).trans boxc
  have hze : wd.heap.size < we.heap.size := by rw [hwe]; simp
  have hoe : CodeO d we [.slice ra0 rl0 rc0, .slice ra1 rl1 rc1] x0 fp := CodeO.lasts d _ _ _ _ _ own2 fun g hg => bele.block g (fr2.2 g hg).2
  have HFP : Hid (fp.Nodup ∧ ∀ g ∈ fp, wy.heap.size ≤ g ∧ g < wd.heap.size) := fr2
  have hce : Below wy.heap.size wy we := beld.trans (bele.mono beld.size)
  have hosE := ownsRow_later HOS.out hce
  have hC := putCode_any d _ x0 we (CodeO.reads d _ _ _ _ hoe) HF.out HZ.out (HTB.out we belE)
  rw [hwe] at hC
  have HWE : Hid (we = _) := hwe
  have hcd : wy.heap.size ≤ wd.heap.size := beld.size
  clear hwe bele beld belD own2 fr2 boxc hce
  go_wp2_with fail
  refine hC.mono ?_
  clear hC
  intro e wf hPC
  rw [← HWE.out] at hPC
  obtain ⟨vG, rfl, hoG, belf⟩ := pc_row hPC HXS.out
  have HS : Hid (SC d w wf w.heap.size wd.heap.size #[.slice pa0 pl0 pc0, .slice pa1 pl1 pc1] #[.slice ra0 rl0 rc0, .slice ra1 rl1 rc1] wb.heap.size vS we.heap.size vG xs [.slice ra0 rl0 rc0, .slice ra1 rl1 rc1] x0 fp) :=
    ⟨(belf.block _ (by omega)).trans hcele, (belf.block _ hze).trans hxe, belE.trans (belf.mono belE.size), ownsRow_later hosE belf, hoG, CodeO.lasts d _ _ _ _ _ hoe fun g hg => belf.block g (Nat.lt_trans (HFP.out.2 g hg).2 hze), fun g hg => Nat.lt_of_lt_of_le (Nat.lt_trans (HFP.out.2 g hg).2 hze) belf.size⟩
  have hef : we.heap.size ≤ wf.heap.size := belf.size
  clear hPC belf hoG hoe hosE HWE hxe hcele belE HOS
  go_wp2_with fail
  refine (eqV _ _ _ _ xs wf HS.out.g HS.out.s (by omega)).mono ?_
  rintro e wg ⟨rfl, belg⟩
  have HSG : Hid (SC d w wg _ _ _ _ _ _ _ _ _ _ _ _) := HS.out.later belg
  have hfg : we.heap.size ≤ wg.heap.size := Nat.le_trans hef belg.size
  clear belg HS
  have b0 : wg.cell? ⟨w.heap.size, 0, none⟩ = some (.slice pa0 pl0 pc0) := by rw [cell_of_row wg _ 0 _ _ _ HSG.out.a]; rfl
  have b1 : wg.cell? ⟨w.heap.size, 1, none⟩ = some (.slice pa1 pl1 pc1) := by rw [cell_of_row wg _ 1 _ _ _ HSG.out.a]; rfl
  have d0 : wg.cell? ⟨wd.heap.size, 0, none⟩ = some (.slice ra0 rl0 rc0) := by rw [cell_of_row wg _ 0 _ _ _ HSG.out.x]; rfl
  have d1 : wg.cell? ⟨wd.heap.size, 1, none⟩ = some (.slice ra1 rl1 rc1) := by rw [cell_of_row wg _ 1 _ _ _ HSG.out.x]; rfl
  have HT0 : Hid (∀ X : World, Below wg.heap.size wg X → Calls Tryd.prog 6 #[.agg #[.slice pa0 pl0 pc0, .slice pa1 pl1 pc1]] X fun e V => ∃ (sa0 : Option Addr) (sl0 sc0 : Nat) (sa1 : Option Addr) (sl1 sc1 : Nat), e = .returned (.agg #[.slice sa0 sl0 sc0, .slice sa1 sl1 sc1]) ∧ Hid (CodeR d V [.slice sa0 sl0 sc0, .slice sa1 sl1 sc1] x0) ∧ Below wg.heap.size wg V) := fun X hX => by
    refine (HTX.out X (HSG.out.b.trans (hX.mono HSG.out.b.size))).mono ?_
    rintro e V ⟨vs3, fp3, rfl, own3, _, hB⟩
    obtain ⟨sa0, sl0, sc0, sa1, sl1, sc1, rfl⟩ := HSX.out _ _ _ own3
    exact ⟨sa0, sl0, sc0, sa1, sl1, sc1, rfl, CodeO.reads d _ _ _ _ own3, hX.trans (hB.mono hX.size)⟩
  have HEX : Hid (∀ (V : World) (sa0 : Option Addr) (sl0 sc0 : Nat) (sa1 : Option Addr) (sl1 sc1 : Nat), Below wg.heap.size wg V → CodeR d V [.slice sa0 sl0 sc0, .slice sa1 sl1 sc1] x0 → _) := fun V sa0 sl0 sc0 sa1 sl1 sc1 hV h => eqCode_any d [.slice ra0 rl0 rc0, .slice ra1 rl1 rc1] [.slice sa0 sl0 sc0, .slice sa1 sl1 sc1] x0 V (CodeO.reads d _ _ _ _ (HSG.out.later hV).o) h HF.out
  have hlst : Hid (Below wg.heap.size wg wg.drew) := (Below.refl _ _).drew
  go_wp2_with fail
  go_cut [31] (fun v wx => v = .bool false ∧ Hid (Below wg.heap.size wg wx))
  case first =>
    go_region_with (first | (go_at_call 6; refine (HT0.out _ hlst.out).mono ?_; rintro e V ⟨sa0, sl0, sc0, sa1, sl1, sc1, rfl, HR3, hB⟩; have f0 := cell_later hB d0; have f1 := cell_later hB d1) | (go_at_call 9; refine (HEX.out V sa0 sl0 sc0 sa1 sl1 sc1 hB HR3.out).mono ?_; rintro e V2 ⟨rfl, hB2⟩))
    all_goals
      have hbf : Hid (Below wg.heap.size wg V2) := hB.trans (hB2.mono hB.size)
      clear hB hB2 HR3
      go_wp2_with fail
      go_meet
      case rel => exact ⟨rfl, hbf⟩
  case rest =>
    obtain ⟨hu, belh⟩ := hcut
    obtain ⟨wh, hwh⟩ : ∃ w, w = wc := ⟨_, rfl⟩
    rw [← hwh] at belh ⊢
    rw [hu]
    have HSH : Hid (SC d w wh _ _ _ _ _ _ _ _ _ _ _ _) := HSG.out.later belh.out
    have hgh : wg.heap.size ≤ wh.heap.size := belh.out.size
    clear belh HSG hlst HT0 HEX b0 b1 d0 d1 hu hwh
    have d0 : wh.cell? ⟨wd.heap.size, 0, none⟩ = some (.slice ra0 rl0 rc0) := by rw [cell_of_row wh _ 0 _ _ _ HSH.out.x]; rfl
    have d1 : wh.cell? ⟨wd.heap.size, 1, none⟩ = some (.slice ra1 rl1 rc1) := by rw [cell_of_row wh _ 1 _ _ _ HSH.out.x]; rfl
    obtain ⟨N1, hN1⟩ : ∃ N, N = ckSCode d x0 := ⟨_, rfl⟩
    have hN1b : N1 ≤ 4194304 := by have := ckSCode_le d x0; have := HZ.out; omega
    have hmk := markCode_any d [.slice ra0 rl0 rc0, .slice ra1 rl1 rc1] x0 fp 1 wh HSH.out.o HFP.out.1 HSH.out.lt (by omega) (by rw [← hN1]; omega)
    rw [← hN1] at hmk
    clear hN1
    go_wp2_with fail
    refine hmk.mono ?_
    clear hmk
    rintro e wi ⟨rfl, _, hWr⟩
    have HS2 : Hid (SC2 w wi _ _ _ _ _ _ _ _) := HSH.out.spent hWr (lo := wy.heap.size) (fun g hg => ⟨(HFP.out.2 g hg).1, Nat.lt_trans (HFP.out.2 g hg).2 hze⟩) hwzc belC.size HVS.out hgS (by omega)
    have hiz : wh.heap.size ≤ wi.heap.size := hWr.size
    obtain ⟨K1, hK1⟩ : ∃ K : Int, (1 + (N1 : Nat) : Int) = K := ⟨_, rfl⟩
    rw [hK1]
    have hK1p : ¬ K1 < 0 := by omega
    clear hWr HSH d0 d1 hK1
    go_wp2_with fail
    refine (eqV _ _ _ _ xs wi HS2.out.g HS2.out.s (by omega)).mono ?_
    rintro e wj ⟨rfl, belj⟩
    have HS3 : Hid (SC2 w wj _ _ _ _ _ _ _ _) := HS2.out.later belj
    have hjz : wi.heap.size ≤ wj.heap.size := belj.size
    clear belj HS2
    go_wp2_with fail
    refine (markV we.heap.size xs.length vG _ wj HS3.out.g (by omega) (by omega)).mono ?_
    rintro e wk ⟨rfl, hmkd, belk⟩
    have HS4 : Hid (SC2 w wk _ _ _ _ _ _ _ _) := HS3.out.under belk (by omega) (by have := belC.size; omega) HVS.out (by omega) hmkd
    have hkz : wj.heap.size ≤ wk.heap.size := belk.size
    clear belk HS3 hmkd
    go_wp2_with fail
    refine (heldV we.heap.size xs.length vG _ wk HS4.out.g (by omega)).mono ?_
    rintro e wk' ⟨rfl, rfl⟩
    have b0 : wk.cell? ⟨w.heap.size, 0, none⟩ = some (.slice pa0 pl0 pc0) := by rw [cell_of_row wk _ 0 _ _ _ HS4.out.a]; rfl
    have b1 : wk.cell? ⟨w.heap.size, 1, none⟩ = some (.slice pa1 pl1 pc1) := by rw [cell_of_row wk _ 1 _ _ _ HS4.out.a]; rfl
    go_wp2_with fail
    refine (HTX.out wk HS4.out.b).mono ?_
    clear b0 b1
    rintro e wl ⟨vs4, fp4, rfl, own4, _, bell⟩
    obtain ⟨ja0, jl0, jc0, ja1, jl1, jc1, rfl⟩ := HSX.out _ _ _ own4
    have HS5 : Hid (SC2 w wl _ _ _ _ _ _ _ _) := HS4.out.later bell
    have hC := putCode_any d _ x0 wl (CodeO.reads d _ _ _ _ own4) HF.out HZ.out (HTB.out wl HS5.out.b)
    clear bell HS4 own4
    go_wp2_with fail
    refine hC.mono ?_
    clear hC
    intro e wm hPC
    obtain ⟨vH, rfl, hoH, belm⟩ := pc_row hPC HXS.out
    have HS6 : Hid (SC2 w wm _ _ _ _ _ _ _ _) := HS5.out.later belm
    clear belm HS5 hPC
    go_wp2_with fail
    refine (eqV _ _ _ _ xs wm hoH HS6.out.s (by omega)).mono ?_
    rintro e wn ⟨rfl, beln⟩
    have HS7 : Hid (SC2 w wn _ _ _ _ _ _ _ _) := HS6.out.later beln
    clear beln HS6 hoH
    go_wp2_with fail
    refine (heldV we.heap.size xs.length vG _ wn HS7.out.g (by omega)).mono ?_
    rintro e wn' ⟨rfl, rfl⟩
    go_wp2_with fail
    go_ret
    exact ⟨rfl, HS7.out.b⟩

/-- The start that the program's own text lays meets the condition. -/
theorem door_met (os : Os) (args : Array Value) : laidMetH Tryd.prog Rows.fnExactPutCodeRow.laid ((World.doorLaid Tryd.prog 4000 os).forCall (fun _ _ => 0) ⟨#[], args, []⟩).memory :=
  laidMetH_of_parts3 (fuel := 8) (laidMet_of_run' 8 (by kernel_rfl) (by kernel_rfl)) (by kernel_rfl) (by kernel_rfl)

/-- What the condition gives the walk. -/
theorem of_laid {W : World} (h : laidMetH Tryd.prog Rows.fnExactPutCodeRow.laid W) : ShOk W := by
  rw [MakeChecks.laidMetH_plain _ _ _ (by kernel_rfl)] at h
  exact sh_of_laid h

set_option maxRecDepth 100000 in
theorem lifted (os : Os) (started : os.Started) (H : Type) (enc : TypeId × Value → H) :
    ReturnsInHanded {} Tryd.checked os 3 .any (fun w args => (Rows.fnExactPutCodeSpec.pre enc Tryd.prog Tryd.f3 [] false w args ∧ laidMetH Tryd.prog Rows.fnExactPutCodeRow.laid w) ∧ sizedMet enc Tryd.prog Tryd.f3 (OpenSpec.ofChange Rows.fnExactPutCodeSpec) false w args)
      (Rows.fnExactPutCodeSpec.post enc Tryd.prog Tryd.f3 false true false false) := by
  refine returnsInHanded_of_change_and (C := Tryd.checked) (X := fun w _ => laidMetH Tryd.prog Rows.fnExactPutCodeRow.laid w) (fun _ _ _ hh h => h.of_heap hh) own started (by kernel_rfl) Tryd.func3
    (ChangeSpec.witness_shaped (enc := enc) (C := Tryd.checked) (os := os) (X := fun w _ => laidMetH Tryd.prog Rows.fnExactPutCodeRow.laid w) false (World.doorLaid Tryd.prog 4000 os) #[.agg #[.slice none 0 0, .slice none 0 0]] 8 rfl (World.shaped_of_RefB (by kernel_rfl) (by kernel_rfl)) (by kernel_rfl) (by kernel_rfl) (by kernel_rfl) (door_met os _)) ?_
  intro W base args ds gs before hval0 hW _ _ hL _
  have hval : ∀ (j : Nat) t v, Tryd.f3.params[j]? = some t → args[j]? = some v → Value.okWide Tryd.prog W .any base t v := hval0
  have hW' := hW
  obtain ⟨p, q, hA0, hV, rfl, hfz, hnd⟩ := hW
  have hA : DataW.TrodAll enc Tryd.prog W 0 (fun _ => true) true Tryd.f3.params.toList args.toList ds p := hA0
  rw [Tryd.params3] at hA hval
  obtain ⟨v0, vs0, d0, ds0, p0, q0, hargs, rfl, rfl, h0, rr0⟩ := trodAll_cons hA
  obtain ⟨rfl, rfl, rfl⟩ := trodAll_nil rr0
  obtain rfl : args = #[v0] := by cases args; simp_all
  have hV0 : DataW.TrodVars enc Tryd.prog W (fun _ => true) ["loop.example/g00236/impl.shapes"] gs q := hV
  obtain ⟨_, _, _, _, dv, _, rfl, _⟩ := trodVars_one hV0
  have kk0 := h0
  have lt0 : ∀ x ∈ p0, x.block < W.heap.size := by obtain ⟨m, hm⟩ := kk0; exact DataW.trod_lt m _ _ _ hm
  obtain ⟨M0, R0⟩ := read_Code (hval 0 25 v0 rfl rfl) h0
  obtain ⟨d, hd⟩ : ∃ d, d = M0 := ⟨_, rfl⟩
  obtain ⟨vs0, x0, rfl, r0, f0⟩ := R0 d (by omega)
  clear hA0 hval0
  refine (walk d W (of_laid hL) vs0 x0 r0 f0).mono fun e W' ⟨he, bel⟩ => ?_
  subst he
  exact ⟨_, rfl, _, _, _, [], _, _, hW', trodAll_mk1 (shut_bool Tryd.underlying4 _), (trodAll_cons_mk (Below.trod laidOut (by kernel_rfl) (of_decide_eq_true (by kernel_rfl)) kk0 bel lt0) trodAll_mk0), Below.trodVars laidOut bel (by kernel_rfl) hV0, bel.frame _, fun h => by cases h⟩

theorem over : Rows.fnExactPutCodeRow.holds Tryd.pinned (OpenSpec.ofChange Rows.fnExactPutCodeSpec) :=
  OpenClaim.holds_of_wide 3 Tryd.f3 rfl rfl rfl rfl rfl rfl rfl ⟨rfl, rfl, rfl, rfl, rfl⟩ rfl rfl rfl rfl rfl (by kernel_rfl) Tryd.func3 (by kernel_rfl)
    (of_decide_eq_true (by kernel_rfl)) (by unfold Func.isWrapper; first | (rw [if_pos (by decide +kernel)]; kernel_rfl) | (rw [if_neg (by decide +kernel)]; exact ⟨rfl, rfl⟩))
    (fun os started H enc _ => lifted os started H enc)

theorem card_holds : Claim7.holds Tryd.pinned (.plain (OpenSpec.ofChange Rows.fnExactPutCodeSpec)) Rows.fnExactPutCodeCard :=
  Claim7.holds_tied_plain_at .later [] [.data] true (true, "594f928f71f62d1765a3ebe1fa1a9991209584e16f435528199980db345b7e6d") false
    over (fun _ h => by cases h) (by kernel_rfl) (fun _ h => by cases h) fnExactPutCode_row_tie rfl ⟨rfl, rfl⟩ (by kernel_rfl) rfl
    (fun f fn hf hfn => by
      obtain rfl : f = 3 := Option.some.inj ((show Tryd.prog.funcNamed Tryd.f3.name = some 3 by kernel_rfl).symm.trans hf) |>.symm
      obtain rfl : fn = Tryd.f3 := (Option.some.inj (Tryd.func3.symm.trans hfn)).symm
      exact ⟨by kernel_rfl, fun j t ht => by
        rw [Tryd.params3] at ht
        have hm : t ∈ [25] := by simpa using Array.mem_of_getElem? ht
        have hall : ([25].all fun u => !Tryd.prog.wantsStandIn u) = true := by kernel_rfl
        exact (show Tryd.prog.wantsStandIn t = false by simpa using List.all_eq_true.1 hall t hm)⟩)
    (by kernel_rfl)

end Go.Proofs.YtfachfimdenapaaDoor.fnExactPutCode
namespace Go.Proofs.YtfachfimdenapaaDoor
/-- THE STATEMENT. -/
theorem fnExactPutCode_said : Rows.FnExactPutCodeCardSaid := fnExactPutCode.card_holds
#print axioms fnExactPutCode_said
end Go.Proofs.YtfachfimdenapaaDoor
