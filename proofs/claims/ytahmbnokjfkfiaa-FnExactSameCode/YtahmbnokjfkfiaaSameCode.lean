/- Code held against code: at every two codes the program answers as the model, and turns nothing. (The frame round the walk is the guide's own way.) -/
import Derived.Test.YtahmbnokjfkfiaaSc8
import Derived.Test.YtahmbnokjfkfiaaXRead0
import Derived.WalkKit
import Derived.ProofKit
import Derived.OpenShut
import Derived.ShutString
import Derived.ChangeOld
import Derived.Below
import Derived.Deep.DeepCutAuto
namespace Go.Proofs.Ytahmbnokjfkfiaa.fnExactSameCode
open Go.ChangeShapes Go.WideShapes Go.ChangeAt Go.RowKit
open Go.ChangeMaps (open_string shut_string)
set_option linter.unusedVariables false

theorem own : ownKnob Try.prog.godebug = none := by kernel_rfl
theorem laidOut : laidOutB Try.prog = true := by kernel_rfl

set_option maxRecDepth 100000 in
set_option maxHeartbeats 8000000 in
theorem walk (d : Nat) (w : World) (vs0 : List Value) (x0 : DCode d) (r0 : CodeR d w vs0 x0) (f0 : WfCode d x0) (vs1 : List Value) (x1 : DCode d) (r1 : CodeR d w vs1 x1) (f1 : WfCode d x1) :
    Calls Try.prog 4 #[.agg vs0.toArray, .agg vs1.toArray] w fun e w' => e = .returned (.bool true) ∧ Below w.heap.size w w' := by
  obtain ⟨pa0, pl0, pc0, pa1, pl1, pc1, rfl⟩ := CodeR.shape d _ _ _ r0
  obtain ⟨Pa0, Pl0, Pc0, Pa1, Pl1, Pc1, rfl⟩ := CodeR.shape d _ _ _ r1
  have HR : Hid (∀ V : World, Below w.heap.size w V → CodeR d V [.slice pa0 pl0 pc0, .slice pa1 pl1 pc1] x0) := fun V hV => CodeR.lasts d _ _ _ _ r0 hV
  have HQ : Hid (∀ V : World, Below w.heap.size w V → CodeR d V [.slice Pa0 Pl0 Pc0, .slice Pa1 Pl1 Pc1] x1) := fun V hV => CodeR.lasts d _ _ _ _ r1 hV
  have HF : Hid (WfCode d x0) := f0
  have HG : Hid (WfCode d x1) := f1
  have HSX : Hid (∀ (V : World) (vs : List Value) (fp : List Nat), CodeO d V vs x0 fp → ShCode vs) := fun V vs fp h => CodeO.shape d V vs x0 fp h
  have HSY : Hid (∀ (V : World) (vs : List Value) (fp : List Nat), CodeO d V vs x1 fp → ShCode vs) := fun V vs fp h => CodeO.shape d V vs x1 fp h
  obtain ⟨W0, hW0⟩ : ∃ W, W = (w.alloc (.cells #[.slice pa0 pl0 pc0, .slice pa1 pl1 pc1] 32)).alloc (.cells #[.slice Pa0 Pl0 Pc0, .slice Pa1 Pl1 Pc1] 32) := ⟨_, rfl⟩
  have bel0 : Below w.heap.size w W0 := by rw [hW0]; exact ((Below.refl _ _).alloc (Nat.le_refl _) _).alloc (by simp) _
  have boy0 : W0.heap[w.heap.size + 1]? = some (.cells #[.slice Pa0 Pl0 Pc0, .slice Pa1 Pl1 Pc1] 32 (0, 0)) := by
    rw [hW0, show w.heap.size + 1 = (w.alloc (.cells #[.slice pa0 pl0 pc0, .slice pa1 pl1 pc1] 32)).heap.size from by simp]; exact heap_alloc_new _ _
  have box0 : W0.heap[w.heap.size]? = some (.cells #[.slice pa0 pl0 pc0, .slice pa1 pl1 pc1] 32 (0, 0)) := by
    rw [hW0, (((Below.refl _ _).alloc (Nat.le_refl _) _).block w.heap.size (by simp))]; exact heap_alloc_new _ _
  have hC := szCode_any d [.slice pa0 pl0 pc0, .slice pa1 pl1 pc1] x0 1048576 W0 (HR.out W0 bel0) HF.out (by omega) (by omega)
  rw [hW0] at hC
  have HW0 : Hid (W0 = _) := hW0
  have hmx : maxLen ≤ 9223372036854775807 := by decide
  clear r0 f0 r1 f1 hW0
  go_enter Try.func4, Try.ntmps4
  go_wp2_with fail
  refine hC.mono ?_
  clear hC
  rintro e wa ⟨rfl, bela⟩
  rw [← HW0.out] at bela
  have boxa := (bela.block _ (lt_row box0)).trans box0
  have boya := (bela.block _ (lt_row boy0)).trans boy0
  have belA : Below w.heap.size w wa := bel0.trans (bela.mono bel0.size)
  clear bel0 bela box0 boy0 HW0
  by_cases hz : szCodeD d x0 ≤ 1048576
  case neg =>
    have hl : lft 1048576 (szCodeD d x0) = -1 := by unfold lft; rw [if_neg (by omega)]
    rw [hl]
    clear hz hl boxa boya
    go_wp2_with fail
    go_ret
    exact ⟨rfl, belA⟩
  obtain ⟨x, hx, hxp, hxm⟩ : ∃ x : Int, lft 1048576 (szCodeD d x0) = x ∧ 0 ≤ x ∧ x ≤ 1048576 := ⟨_, rfl, by unfold lft; rw [if_pos (by omega)]; omega, by unfold lft; rw [if_pos (by omega)]; omega⟩
  rw [hx]
  have HZ : Hid (szCodeD d x0 ≤ 1048576) := hz
  clear hz hx
  have c0 : wa.cell? ⟨w.heap.size + 1, 0, none⟩ = some (.slice Pa0 Pl0 Pc0) := by rw [cell_of_row wa _ 0 _ _ _ boya]; rfl
  have c1 : wa.cell? ⟨w.heap.size + 1, 1, none⟩ = some (.slice Pa1 Pl1 Pc1) := by rw [cell_of_row wa _ 1 _ _ _ boya]; rfl
  have hC := szCode_any d [.slice Pa0 Pl0 Pc0, .slice Pa1 Pl1 Pc1] x1 x wa (HQ.out wa belA) HG.out (by omega) (by omega)
  go_wp2_with fail
  refine hC.mono ?_
  clear hC
  rintro e wb ⟨rfl, belb⟩
  clear c0 c1
  have boxb := (belb.block _ (lt_row boxa)).trans boxa
  have boyb := (belb.block _ (lt_row boya)).trans boya
  have belB : Below w.heap.size w wb := belA.trans (belb.mono belA.size)
  clear belA belb boxa boya
  by_cases hz : (szCodeD d x1 : Int) ≤ x
  case neg =>
    have hl : lft x (szCodeD d x1) = -1 := by unfold lft; rw [if_neg (by omega)]
    rw [hl]
    clear hz hl boxb boyb
    go_wp2_with fail
    go_ret
    exact ⟨rfl, belB⟩
  obtain ⟨y, hy, hyp⟩ : ∃ y : Int, lft x (szCodeD d x1) = y ∧ 0 ≤ y := ⟨_, rfl, by unfold lft; rw [if_pos (by omega)]; omega⟩
  rw [hy]
  have HY : Hid (szCodeD d x1 ≤ 1048576) := by show _ ≤ _; omega
  clear hz hy
  have HTX : Hid (∀ V : World, Below w.heap.size w V → _) := fun V hV => toCode_any d [.slice pa0 pl0 pc0, .slice pa1 pl1 pc1] x0 V (HR.out V hV) HF.out HZ.out
  have HTY : Hid (∀ V : World, Below w.heap.size w V → _) := fun V hV => toCode_any d [.slice Pa0 Pl0 Pc0, .slice Pa1 Pl1 Pc1] x1 V (HQ.out V hV) HG.out HY.out
  have HT0 : Hid (∀ V0 : World, Below w.heap.size w V0 → Calls Try.prog 12 #[.agg #[.slice pa0 pl0 pc0, .slice pa1 pl1 pc1]] V0 fun e V => ∃ (sa0 : Option Addr) (sl0 sc0 : Nat) (sa1 : Option Addr) (sl1 sc1 : Nat), e = .returned (.agg #[.slice sa0 sl0 sc0, .slice sa1 sl1 sc1]) ∧ Hid (CodeR d V [.slice sa0 sl0 sc0, .slice sa1 sl1 sc1] x0) ∧ Below V0.heap.size V0 V) := fun V0 hX => by
    refine (HTX.out V0 hX).mono ?_
    rintro e V ⟨vs3, fp3, rfl, own3, _, hB⟩
    obtain ⟨sa0, sl0, sc0, sa1, sl1, sc1, rfl⟩ := HSX.out _ _ _ own3
    exact ⟨sa0, sl0, sc0, sa1, sl1, sc1, rfl, CodeO.reads d _ _ _ _ own3, hB⟩
  have HT1 : Hid (∀ V0 : World, Below w.heap.size w V0 → Calls Try.prog 12 #[.agg #[.slice Pa0 Pl0 Pc0, .slice Pa1 Pl1 Pc1]] V0 fun e V => ∃ (ta0 : Option Addr) (tl0 tc0 : Nat) (ta1 : Option Addr) (tl1 tc1 : Nat), e = .returned (.agg #[.slice ta0 tl0 tc0, .slice ta1 tl1 tc1]) ∧ Hid (CodeR d V [.slice ta0 tl0 tc0, .slice ta1 tl1 tc1] x1) ∧ Below V0.heap.size V0 V) := fun V0 hX => by
    refine (HTY.out V0 hX).mono ?_
    rintro e V ⟨vs3, fp3, rfl, own3, _, hB⟩
    obtain ⟨ta0, tl0, tc0, ta1, tl1, tc1, rfl⟩ := HSY.out _ _ _ own3
    exact ⟨ta0, tl0, tc0, ta1, tl1, tc1, rfl, CodeO.reads d _ _ _ _ own3, hB⟩
  have HSP : Hid (∀ (V : World) (sa0 : Option Addr) (sl0 sc0 : Nat) (sa1 : Option Addr) (sl1 sc1 : Nat) (ta0 : Option Addr) (tl0 tc0 : Nat) (ta1 : Option Addr) (tl1 tc1 : Nat), CodeR d V [.slice sa0 sl0 sc0, .slice sa1 sl1 sc1] x0 → CodeR d V [.slice ta0 tl0 tc0, .slice ta1 tl1 tc1] x1 → Calls Try.prog 11 #[.agg #[.slice sa0 sl0 sc0, .slice sa1 sl1 sc1], .agg #[.slice ta0 tl0 tc0, .slice ta1 tl1 tc1]] V fun e w' => BRes (pSameCode x0 x1) V e w') := fun V sa0 sl0 sc0 sa1 sl1 sc1 ta0 tl0 tc0 ta1 tl1 tc1 h1 h2 => specSameCode_any d _ x0 _ x1 V h1 HF.out HZ.out h2 HG.out HY.out
  have HBB : Hid (Below w.heap.size w wb) := belB
  have HBd : Hid (Below w.heap.size w wb.drew) := belB.drew
  have HDR : Hid (Below wb.heap.size wb wb.drew) := (Below.refl _ _).drew
  have HBOX : Hid (wb.heap[w.heap.size]? = _) := boxb
  have HBOY : Hid (wb.heap[w.heap.size + 1]? = _) := boyb
  have b0 : wb.cell? ⟨w.heap.size, 0, none⟩ = some (.slice pa0 pl0 pc0) := by rw [cell_of_row wb _ 0 _ _ _ boxb]; rfl
  have b1 : wb.cell? ⟨w.heap.size, 1, none⟩ = some (.slice pa1 pl1 pc1) := by rw [cell_of_row wb _ 1 _ _ _ boxb]; rfl
  have c0 : wb.cell? ⟨w.heap.size + 1, 0, none⟩ = some (.slice Pa0 Pl0 Pc0) := by rw [cell_of_row wb _ 0 _ _ _ boyb]; rfl
  have c1 : wb.cell? ⟨w.heap.size + 1, 1, none⟩ = some (.slice Pa1 Pl1 Pc1) := by rw [cell_of_row wb _ 1 _ _ _ boyb]; rfl
  clear boxb boyb belB
  go_wp2_with fail
  go_cut [6] (fun v wx => ∃ g1 : Bool, v = .bool g1 ∧ Hid (g1 = true ↔ pSameCode x0 x1) ∧ Hid (Below wb.heap.size wb wx))
  case first =>
    go_region_with (first | (go_at_call 12; (with_reducible refine (HT0.out _ HBd.out).mono ?_); rintro e V ⟨sa0, sl0, sc0, sa1, sl1, sc1, rfl, HS0, hB⟩; have hBV := HDR.out.trans hB; have d0 := cell_later hBV c0; have d1 := cell_later hBV c1; have hBW := HBB.out.trans (hBV.mono HBB.out.size)) | (go_at_call 12; (with_reducible refine (HT1.out V hBW).mono ?_); rintro e V2 ⟨ta0, tl0, tc0, ta1, tl1, tc1, rfl, HS1, hB2⟩; have hBW2 := hBW.trans (hB2.mono hBW.size); have hBV2 := hBV.trans (hB2.mono hBV.size)) | (go_at_call 11; refine (HSP.out V2 sa0 sl0 sc0 sa1 sl1 sc1 ta0 tl0 tc0 ta1 tl1 tc1 (CodeR.lasts d _ _ _ _ HS0.out hB2) HS1.out).mono ?_; rintro e V3 ⟨g1, rfl, hg1, hB3⟩; have hBW3 := hBW2.trans (hB3.mono hBW2.size); have hBV3 := hBV2.trans (hB3.mono hBV2.size)))
    all_goals
      have hgf : Hid (g1 = true ↔ pSameCode x0 x1) := hg1
      have hbf : Hid (Below wb.heap.size wb V3) := hBV3
      clear hg1 hBV3 hBW3 hB hB2 hB3 hBV hBW hBV2 hBW2 HS0 HS1
      go_wp2_with fail
      go_meet
      case rel => exact ⟨g1, rfl, hgf, hbf⟩
  case rest =>
  obtain ⟨g1, hu, HG1, HBC⟩ := hcut
  obtain ⟨V3, hV3⟩ : ∃ w, w = wc := ⟨_, rfl⟩
  rw [← hV3] at HBC ⊢
  rw [hu]
  clear hV3 hu
  have boxc := (HBC.out.block _ (lt_row HBOX.out)).trans HBOX.out
  have boyc := (HBC.out.block _ (lt_row HBOY.out)).trans HBOY.out
  have belC : Below w.heap.size w V3 := HBB.out.trans (HBC.out.mono HBB.out.size)
  clear b0 b1 c0 c1 HBd HDR HBC
  have b0 : V3.cell? ⟨w.heap.size, 0, none⟩ = some (.slice pa0 pl0 pc0) := by rw [cell_of_row V3 _ 0 _ _ _ boxc]; rfl
  have b1 : V3.cell? ⟨w.heap.size, 1, none⟩ = some (.slice pa1 pl1 pc1) := by rw [cell_of_row V3 _ 1 _ _ _ boxc]; rfl
  go_wp2_with fail
  refine (HTX.out V3 belC).mono ?_
  rintro e wd ⟨vs2, fp2, rfl, own2, fr2, beld⟩
  obtain ⟨ra0, rl0, rc0, ra1, rl1, rc1, rfl⟩ := HSX.out _ _ _ own2
  clear b0 b1
  obtain ⟨we, hwe⟩ : ∃ we, we = wd.alloc (.cells #[.slice ra0 rl0 rc0, .slice ra1 rl1 rc1] 38) := ⟨_, rfl⟩
  have bele : Below wd.heap.size wd we := by rw [hwe]; exact (Below.refl _ _).alloc (Nat.le_refl _) _
  have hxe : we.heap[wd.heap.size]? = some (.cells #[.slice ra0 rl0 rc0, .slice ra1 rl1 rc1] 38 (0, 0)) := by rw [hwe]; exact heap_alloc_new wd _
  have belce : Below V3.heap.size V3 we := beld.trans (bele.mono beld.size)
  have boxe := (belce.block _ (lt_row boxc)).trans boxc
  have boye := (belce.block _ (lt_row boyc)).trans boyc
  have belE : Below w.heap.size w we := belC.trans (belce.mono belC.size)
  have HOE : Hid (∀ V : World, Below we.heap.size we V → CodeO d V [.slice ra0 rl0 rc0, .slice ra1 rl1 rc1] x0 fp2) := fun V hV => CodeO.lasts d _ _ _ _ _ own2 fun g hg => (hV.block g (Nat.lt_of_lt_of_le (fr2.2 g hg).2 bele.size)).trans (bele.block g (fr2.2 g hg).2)
  have HWE : Hid (we = _) := hwe
  have HWDS : Hid (wd.heap.size ≤ we.heap.size ∧ Fresh V3.heap.size wd fp2) := ⟨bele.size, fr2⟩
  have hC := HTY.out we belE
  have c0 : we.cell? ⟨w.heap.size + 1, 0, none⟩ = some (.slice Pa0 Pl0 Pc0) := by rw [cell_of_row we _ 0 _ _ _ boye]; rfl
  have c1 : we.cell? ⟨w.heap.size + 1, 1, none⟩ = some (.slice Pa1 Pl1 Pc1) := by rw [cell_of_row we _ 1 _ _ _ boye]; rfl
  rw [hwe] at hC c0 c1
  clear hwe own2 fr2 beld bele belce boxc boyc belC
  go_wp2_with fail
  refine hC.mono ?_
  clear hC
  rintro e wf ⟨vs4, fp4, rfl, own4, fr4, belf⟩
  obtain ⟨qa0, ql0, qc0, qa1, ql1, qc1, rfl⟩ := HSY.out _ _ _ own4
  rw [← HWE.out] at belf
  clear c0 c1
  obtain ⟨wh, hwh⟩ : ∃ wh, wh = wf.alloc (.cells #[.slice qa0 ql0 qc0, .slice qa1 ql1 qc1] 38) := ⟨_, rfl⟩
  have belh : Below wf.heap.size wf wh := by rw [hwh]; exact (Below.refl _ _).alloc (Nat.le_refl _) _
  have hyh : wh.heap[wf.heap.size]? = some (.cells #[.slice qa0 ql0 qc0, .slice qa1 ql1 qc1] 38 (0, 0)) := by rw [hwh]; exact heap_alloc_new wf _
  have beleh : Below we.heap.size we wh := belf.trans (belh.mono belf.size)
  have hxh := (beleh.block _ (lt_row hxe)).trans hxe
  have boxh := (beleh.block _ (lt_row boxe)).trans boxe
  have boyh := (beleh.block _ (lt_row boye)).trans boye
  have belH : Below w.heap.size w wh := belE.trans (beleh.mono belE.size)
  have HBEH : Hid (Below we.heap.size we wh) := beleh
  have HOH : Hid (∀ V : World, Below wh.heap.size wh V → CodeO d V [.slice qa0 ql0 qc0, .slice qa1 ql1 qc1] x1 fp4) := fun V hV => CodeO.lasts d _ _ _ _ _ own4 fun g hg => (hV.block g (Nat.lt_of_lt_of_le (fr4.2 g hg).2 belh.size)).trans (belh.block g (fr4.2 g hg).2)
  have hwds := HWDS.out.1
  have fr2 := HWDS.out.2
  have hwdh : wd.heap.size < wf.heap.size := Nat.lt_of_lt_of_le (lt_row hxe) belf.size
  have hC := implSameCode_any d _ x0 _ x1 wh _ _ (HOE.out wh beleh) (HOH.out wh (Below.refl _ _)) HZ.out HY.out (fresh_apartG fr2 fr4 (by simp)) (fun g hg => (List.mem_append.1 hg).elim (fun h => Nat.lt_of_lt_of_le (fr2.2 g h).2 (Nat.le_trans hwds beleh.size)) (fun h => Nat.lt_of_lt_of_le (fr4.2 g h).2 belh.size))
  have hxf := (belf.block _ (lt_row hxe)).trans hxe
  have a0 : wf.cell? ⟨wd.heap.size, 0, none⟩ = some (.slice ra0 rl0 rc0) := by rw [cell_of_row wf _ 0 _ _ _ hxf]; rfl
  have a1 : wf.cell? ⟨wd.heap.size, 1, none⟩ = some (.slice ra1 rl1 rc1) := by rw [cell_of_row wf _ 1 _ _ _ hxf]; rfl
  rw [hwh] at hC
  have HWH : Hid (wh = _) := hwh
  clear hwh own4 fr4 fr2 hwds HWDS belf belh beleh hxe boxe boye belE hxf
  go_wp2_with fail
  refine hC.mono ?_
  clear hC
  rintro e wg ⟨g2, rfl, hg2, belg⟩
  have hgg : g1 = g2 := by
    have h1 := HG1.out
    cases g1 <;> cases g2
    · rfl
    · exact h1.2 (hg2.1 rfl)
    · exact (hg2.2 (h1.1 rfl)).symm
    · rfl
  subst hgg
  clear hg2
  rw [← HWH.out] at belg
  have hxg := (belg.block _ (lt_row hxh)).trans hxh
  have hyg := (belg.block _ (lt_row hyh)).trans hyh
  have boxg := (belg.block _ (lt_row boxh)).trans boxh
  have boyg := (belg.block _ (lt_row boyh)).trans boyh
  have HBG : Hid (Below wh.heap.size wh wg) := belg
  have HSG : Hid (Below w.heap.size w wg) := belH.trans (belg.mono belH.size)
  have HYG : Hid (wg.heap[wf.heap.size]? = _) := hyg
  have HPG : Hid (wg.heap[w.heap.size + 1]? = _) := boyg
  clear a0 a1 hxh hyh boxh boyh belH belg HG1
  have b0 : wg.cell? ⟨w.heap.size, 0, none⟩ = some (.slice pa0 pl0 pc0) := by rw [cell_of_row wg _ 0 _ _ _ boxg]; rfl
  have b1 : wg.cell? ⟨w.heap.size, 1, none⟩ = some (.slice pa1 pl1 pc1) := by rw [cell_of_row wg _ 1 _ _ _ boxg]; rfl
  have d0 : wg.cell? ⟨wd.heap.size, 0, none⟩ = some (.slice ra0 rl0 rc0) := by rw [cell_of_row wg _ 0 _ _ _ hxg]; rfl
  have d1 : wg.cell? ⟨wd.heap.size, 1, none⟩ = some (.slice ra1 rl1 rc1) := by rw [cell_of_row wg _ 1 _ _ _ hxg]; rfl
  clear hxg hyg boxg boyg
  have HEX : Hid (∀ (V : World) (sa0 : Option Addr) (sl0 sc0 : Nat) (sa1 : Option Addr) (sl1 sc1 : Nat), Below wg.heap.size wg V → CodeR d V [.slice sa0 sl0 sc0, .slice sa1 sl1 sc1] x0 → _) := fun V sa0 sl0 sc0 sa1 sl1 sc1 hV h => eqCode_any d [.slice ra0 rl0 rc0, .slice ra1 rl1 rc1] [.slice sa0 sl0 sc0, .slice sa1 sl1 sc1] x0 V (CodeO.reads d _ _ _ _ (HOE.out V (HBEH.out.trans ((HBG.out.trans (hV.mono HBG.out.size)).mono HBEH.out.size)))) h HF.out
  have HSD : Hid (Below w.heap.size w wg.drew) := HSG.out.drew
  have HGD : Hid (Below wg.heap.size wg wg.drew) := (Below.refl _ _).drew
  have hbb : (g1 == g1) = true := by cases g1 <;> rfl
  have hbn : (g1 != g1) = false := by simp
  go_wp2_with fail
  go_cut [39] (fun v wx => v = .bool false ∧ Hid (Below wg.heap.size wg wx))
  case first =>
    go_region_with (first | (go_at_call 12; (with_reducible refine (HT0.out _ HSD.out).mono ?_); rintro e V ⟨sa0, sl0, sc0, sa1, sl1, sc1, rfl, HR3, hB⟩; have hB0 := HGD.out.trans hB; have e0 := cell_later hB0 d0; have e1 := cell_later hB0 d1) | (go_at_call 14; refine (HEX.out V sa0 sl0 sc0 sa1 sl1 sc1 hB0 HR3.out).mono ?_; rintro e V2 ⟨rfl, hB2⟩))
    all_goals
      have hbf : Hid (Below wg.heap.size wg V2) := hB0.trans (hB2.mono hB0.size)
      clear hB hB0 hB2 HR3
      go_wp2_with fail
      go_meet
      case rel => exact ⟨rfl, hbf⟩
  case rest =>
  obtain ⟨hu, HB2⟩ := hcut
  obtain ⟨V2, hV2⟩ : ∃ w, w = wc := ⟨_, rfl⟩
  rw [← hV2] at HB2 ⊢
  rw [hu]
  clear hV2 hu
  have hyv := (HB2.out.block _ (lt_row HYG.out)).trans HYG.out
  have boyv := (HB2.out.block _ (lt_row HPG.out)).trans HPG.out
  have HSV : Hid (Below w.heap.size w V2) := HSG.out.trans (HB2.out.mono HSG.out.size)
  have HHV : Hid (Below wh.heap.size wh V2) := HBG.out.trans (HB2.out.mono HBG.out.size)
  clear b0 d0 b1 d1 HB2
  clear HYG HPG HSD HGD HEX
  have c0 : V2.cell? ⟨w.heap.size + 1, 0, none⟩ = some (.slice Pa0 Pl0 Pc0) := by rw [cell_of_row V2 _ 0 _ _ _ boyv]; rfl
  have c1 : V2.cell? ⟨w.heap.size + 1, 1, none⟩ = some (.slice Pa1 Pl1 Pc1) := by rw [cell_of_row V2 _ 1 _ _ _ boyv]; rfl
  have d0 : V2.cell? ⟨wf.heap.size, 0, none⟩ = some (.slice qa0 ql0 qc0) := by rw [cell_of_row V2 _ 0 _ _ _ hyv]; rfl
  have d1 : V2.cell? ⟨wf.heap.size, 1, none⟩ = some (.slice qa1 ql1 qc1) := by rw [cell_of_row V2 _ 1 _ _ _ hyv]; rfl
  clear hyv boyv
  have HEY : Hid (∀ (V : World) (ta0 : Option Addr) (tl0 tc0 : Nat) (ta1 : Option Addr) (tl1 tc1 : Nat), Below V2.heap.size V2 V → CodeR d V [.slice ta0 tl0 tc0, .slice ta1 tl1 tc1] x1 → _) := fun V ta0 tl0 tc0 ta1 tl1 tc1 hV h => eqCode_any d [.slice qa0 ql0 qc0, .slice qa1 ql1 qc1] [.slice ta0 tl0 tc0, .slice ta1 tl1 tc1] x1 V (CodeO.reads d _ _ _ _ (HOH.out V (HHV.out.trans (hV.mono HHV.out.size)))) h HG.out
  have HSD : Hid (Below w.heap.size w V2.drew) := HSV.out.drew
  have HGD : Hid (Below V2.heap.size V2 V2.drew) := (Below.refl _ _).drew
  go_wp2_with fail
  go_region_with (first | (go_at_call 12; (with_reducible refine (HT1.out _ HSD.out).mono ?_); rintro e V3 ⟨ta0, tl0, tc0, ta1, tl1, tc1, rfl, HR3, hB⟩; have hB0 := HGD.out.trans hB; have e0 := cell_later hB0 d0; have e1 := cell_later hB0 d1) | (go_at_call 14; refine (HEY.out V3 ta0 tl0 tc0 ta1 tl1 tc1 hB0 HR3.out).mono ?_; rintro e V4 ⟨rfl, hB2⟩))
  all_goals
    have hbf : Below w.heap.size w V4 := HSV.out.trans ((hB0.trans (hB2.mono hB0.size)).mono HSV.out.size)
    clear hB hB0 hB2
    go_wp2_with fail
    go_ret
    exact ⟨rfl, hbf⟩

set_option maxRecDepth 100000 in
theorem lifted (os : Os) (started : os.Started) (H : Type) (enc : TypeId × Value → H) :
    ReturnsInHanded {} Try.checked os 4 .any (Rows.fnExactSameCodeSpec.pre6 enc Try.prog Try.f4 Rows.fnExactSameCodeRow.domain false) (Rows.fnExactSameCodeSpec.post enc Try.prog Try.f4 false true false false) := by
  refine returnsInHanded_of_change (C := Try.checked) own started (by kernel_rfl) Try.func4
    (ChangeSpec.witness6 (enc := enc) (C := Try.checked) false ⟨#[], #[.agg #[.slice none 0 0, .slice none 0 0], .agg #[.slice none 0 0, .slice none 0 0]], []⟩ 8 (by kernel_rfl) (by kernel_rfl) (by kernel_rfl) (by kernel_rfl)) ?_
  intro W base args ds gs before hval0 hW hcnd _
  have hval : ∀ (j : Nat) t v, Try.f4.params[j]? = some t → args[j]? = some v → Value.okWide Try.prog W .any base t v := hval0
  have hW' := hW
  obtain ⟨p, q, hA0, hV, rfl, hfz, hnd⟩ := hW
  have hA : DataW.TrodAll enc Try.prog W 0 (fun _ => true) true Try.f4.params.toList args.toList ds p := hA0
  rw [Try.params4] at hA hval
  obtain ⟨v0, vs0, d0, ds0, p0, q0, hargs, rfl, rfl, h0, rr0⟩ := trodAll_cons hA
  obtain ⟨v1, vs1, d1, ds1, p1, q1, rfl, rfl, rfl, h1, rr1⟩ := trodAll_cons rr0
  obtain ⟨rfl, rfl, rfl⟩ := trodAll_nil rr1
  obtain rfl : args = #[v0, v1] := by cases args; simp_all
  obtain ⟨rfl, rfl⟩ := trodVars_none hV
  have kk0 := h0
  have lt0 : ∀ x ∈ p0, x.block < W.heap.size := by obtain ⟨m, hm⟩ := kk0; exact DataW.trod_lt m _ _ _ hm
  obtain ⟨M0, R0⟩ := read_Code (hval 0 32 v0 rfl rfl) h0
  have kk1 := h1
  have lt1 : ∀ x ∈ p1, x.block < W.heap.size := by obtain ⟨m, hm⟩ := kk1; exact DataW.trod_lt m _ _ _ hm
  obtain ⟨M1, R1⟩ := read_Code (hval 1 32 v1 rfl rfl) h1
  obtain ⟨d, hd⟩ : ∃ d, d = max M0 M1 := ⟨_, rfl⟩
  obtain ⟨vs0, x0, rfl, r0, f0⟩ := R0 d (by omega)
  obtain ⟨vs1, x1, rfl, r1, f1⟩ := R1 d (by omega)
  clear hA0 hval0
  refine (walk d W vs0 x0 r0 f0 vs1 x1 r1 f1).mono fun e W' ⟨he, bel⟩ => ?_
  subst he
  exact ⟨_, rfl, _, _, _, [], _, [], hW', trodAll_mk1 (shut_bool Try.underlying4 _), (trodAll_cons_mk (Below.trod laidOut (by kernel_rfl) (of_decide_eq_true (by kernel_rfl)) kk0 bel lt0) (trodAll_cons_mk (Below.trod laidOut (by kernel_rfl) (of_decide_eq_true (by kernel_rfl)) kk1 bel lt1) trodAll_mk0)), rfl, bel.frame _, fun h => by cases h⟩

theorem over : Rows.fnExactSameCodeRow.holds Try.pinned (OpenSpec.ofChange Rows.fnExactSameCodeSpec) :=
  OpenClaim.holds_of_wide 4 Try.f4 rfl rfl rfl rfl rfl rfl rfl ⟨rfl, rfl, rfl, rfl, rfl⟩ rfl rfl rfl rfl rfl (by kernel_rfl) Try.func4 (by kernel_rfl)
    (of_decide_eq_true (by kernel_rfl)) (by unfold Func.isWrapper; first | (rw [if_pos (by decide +kernel)]; kernel_rfl) | (rw [if_neg (by decide +kernel)]; exact ⟨rfl, rfl⟩))
    (fun os started H enc _ => lifted os started H enc)

end Go.Proofs.Ytahmbnokjfkfiaa.fnExactSameCode
namespace Go.Proofs.Ytahmbnokjfkfiaa
/-- THE STATEMENT. -/
theorem fnExactSameCode_said : Rows.FnExactSameCodeSaid := fnExactSameCode.over
#print axioms fnExactSameCode_said
end Go.Proofs.Ytahmbnokjfkfiaa
