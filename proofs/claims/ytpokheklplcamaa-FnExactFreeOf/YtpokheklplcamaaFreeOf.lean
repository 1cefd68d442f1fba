/- For every expression: FreeOf of the program answers as the model, writes into no argument, and its answer owns its memory. (The frame round the walk is the guide's own way.) -/
import Derived.Test.YtpokheklplcamaaSf1M
import Derived.Test.YtpokheklplcamaaXk4M
import Derived.WalkKit
import Derived.ProofKit
import Derived.OpenShut
import Derived.ShutString
import Derived.ChangeOld
import Derived.Below
namespace Go.Proofs.Ytpokheklplcamaa.fnExactFreeOf
open Go.ChangeShapes Go.WideShapes Go.ChangeAt Go.RowKit
open Go.ChangeMaps (open_string shut_string)
set_option linter.unusedVariables false

theorem own : ownKnob Try.prog.godebug = none := by kernel_rfl
theorem laidOut : laidOutB Try.prog = true := by kernel_rfl

set_option maxHeartbeats 1000000 in
theorem walk (d : Nat) (w : World) (vs0 : List Value) (x0 : Ex d) (r0 : ExR d w vs0 x0) (f0 : WfX d x0) :
    Calls Try.prog 5 #[.agg vs0.toArray] w fun e w' => e = .returned (.bool true) ∧ Below w.heap.size w w' := by
  obtain ⟨k, n, s, a3, l3, c3, a4, l4, c4, rfl⟩ := ExR.shape d w vs0 x0 r0
  have HR : Hid (∀ V : World, Below w.heap.size w V → ExR d V [.int .i64 k, .int .i64 n, .string s, .slice a3 l3 c3, .slice a4 l4 c4] x0) := fun V hV => ExR.lasts d _ _ _ _ r0 hV
  have HF : Hid (WfX d x0) := f0
  obtain ⟨W0, hW0⟩ : ∃ W, W = w.alloc (.cells #[.int .i64 k, .int .i64 n, .string s, .slice a3 l3 c3, .slice a4 l4 c4] 38) := ⟨_, rfl⟩
  have bel0 : Below w.heap.size w W0 := by rw [hW0]; exact (Below.refl _ _).alloc (Nat.le_refl _) _
  have box0 : W0.heap[w.heap.size]? = some (.cells #[.int .i64 k, .int .i64 n, .string s, .slice a3 l3 c3, .slice a4 l4 c4] 38 (0, 0)) := by rw [hW0]; exact heap_alloc_new w _
  have hC := szExpr_any d _ x0 1048576 W0 (HR.out W0 bel0) HF.out (by omega) (by omega)
  rw [hW0] at hC
  have HW0 : Hid (W0 = _) := hW0
  clear r0 f0 hW0
  go_enter Try.func5, Try.ntmps5
  go_wp2_with fail
  refine hC.mono ?_
  clear hC
  rintro e wa ⟨rfl, bela⟩
  rw [← HW0.out] at bela
  have boxa := (bela.block _ (lt_row box0)).trans box0
  have belA : Below w.heap.size w wa := bel0.trans (bela.mono bel0.size)
  clear bel0 bela box0 HW0
  by_cases hz : szX d x0 ≤ 1048576
  case neg =>
    have hl : lft 1048576 (szX d x0) = -1 := by unfold lft; rw [if_neg (by omega)]
    rw [hl]
    clear hz hl boxa
    go_wp2_with fail
    go_ret
    exact ⟨rfl, belA⟩
  have hl : ∃ x : Int, lft 1048576 (szX d x0) = x ∧ 0 ≤ x := ⟨_, rfl, by unfold lft; rw [if_pos (by omega)]; omega⟩
  obtain ⟨x, hx, hxp⟩ := hl
  rw [hx]
  have HZ : Hid (szX d x0 ≤ 1048576) := hz
  clear hz hx
  have HTO : Hid (∀ X : World, Below w.heap.size w X → _) := fun X hX => toExpr_any d _ x0 X (HR.out X hX) HF.out HZ.out
  have HSH : Hid (∀ (X : World) (vs : List Value) (fp : List Nat), ExO d X vs x0 fp → ShExpr vs) := fun X vs fp h => ExO.shape d X vs x0 fp h
  obtain ⟨b0, b1, b2, b3, b4⟩ := five_at boxa
  go_wp2_with fail
  refine (HTO.out wa belA).mono ?_
  rintro e wb ⟨vs1, fp1, rfl, own1, fr1, belb⟩
  obtain ⟨p0, p1, p2, p3, pl3, pc3, p4, pl4, pc4, rfl⟩ := HSH.out _ _ _ own1
  clear b0 b1 b2 b3 b4
  have boxb := (belb.block _ (lt_row boxa)).trans boxa
  have belB : Below w.heap.size w wb := belA.trans (belb.mono belA.size)
  have hC := specFreeOf_any d _ x0 fp1 wb own1 (fun g hg => (fr1.2 g hg).2) HZ.out
  clear own1 fr1 belb boxa belA
  go_wp2_with fail
  refine hC.mono ?_
  clear hC
  rintro e wcc ⟨g1, n1, m1, rfl, HR1, belc⟩
  have hvl : (freeX d [] [] x0).length ≤ 1048577 := by have h9 := freeX_len d [] [] x0; have := HZ.out; simp only [List.length_nil] at h9; omega
  obtain ⟨L, hL⟩ : ∃ L, freeX d [] [] x0 = L := ⟨_, rfl⟩
  rw [hL] at HR1 hvl
  have HLV : Hid (freeX d [] [] x0 = L) := hL
  have HSC : Hid (VSt w wcc #[.int .i64 k, .int .i64 n, .string s, .slice a3 l3 c3, .slice a4 l4 c4] (.slice (some ⟨g1, 0, none⟩) n1 m1) L wcc.heap.size) := ⟨(belc.block _ (lt_row boxb)).trans boxb, HR1.out.low belB.size, fun g hg => (HR1.out.blk g hg).2, belB.trans (belc.mono belB.size), Nat.lt_of_lt_of_le (lt_row boxb) belc.size⟩
  clear HR1 belc boxb belB hL
  obtain ⟨b0, b1, b2, b3, b4⟩ := five_at HSC.out.box
  go_wp2_with fail
  refine (HTO.out wcc HSC.out.bel).mono ?_
  rintro e wd ⟨vs2, fp2, rfl, own2, fr2, beld⟩
  obtain ⟨i0, i1, i2, i3, il3, ic3, i4, il4, ic4, rfl⟩ := HSH.out _ _ _ own2
  clear b0 b1 b2 b3 b4
  obtain ⟨we, hwe⟩ : ∃ we, we = wd.alloc (.cells #[.int .i64 i0, .int .i64 i1, .string i2, .slice i3 il3 ic3, .slice i4 il4 ic4] 27) := ⟨_, rfl⟩
  have bele : Below wd.heap.size wd we := by rw [hwe]; exact (Below.refl _ _).alloc (Nat.le_refl _) _
  have hxe : we.heap[wd.heap.size]? = some (.cells #[.int .i64 i0, .int .i64 i1, .string i2, .slice i3 il3 ic3, .slice i4 il4 ic4] 27 (0, 0)) := by rw [hwe]; exact heap_alloc_new wd _
  have belce : Below wcc.heap.size wcc we := beld.trans (bele.mono beld.size)
  have HSE : Hid (VSt w we #[.int .i64 k, .int .i64 n, .string s, .slice a3 l3 c3, .slice a4 l4 c4] (.slice (some ⟨g1, 0, none⟩) n1 m1) L wcc.heap.size) := HSC.out.later belce
  have HOE : Hid (∀ V : World, Below we.heap.size we V → ExO d V [.int .i64 i0, .int .i64 i1, .string i2, .slice i3 il3 ic3, .slice i4 il4 ic4] x0 fp2) := fun V hV => ExO.lasts d _ _ _ _ _ own2 fun g hg => (hV.block g (Nat.lt_of_lt_of_le (fr2.2 g hg).2 bele.size)).trans (bele.block g (fr2.2 g hg).2)
  have HWD : Hid (wcc.heap.size ≤ wd.heap.size) := beld.size
  have HFP : Hid (fp2.Nodup ∧ (∀ g ∈ fp2, wcc.heap.size ≤ g ∧ g < wd.heap.size) ∧ wd.heap.size < we.heap.size) := ⟨fr2.1, fr2.2, lt_row hxe⟩
  have hC := freeOf_any d _ x0 fp2 we (HOE.out we (Below.refl _ _)) HFP.out.1 (fun g hg => Nat.lt_trans (HFP.out.2.1 g hg).2 HFP.out.2.2) HZ.out
  rw [HLV.out] at hC
  rw [hwe] at hC
  have HWE : Hid (we = _) := hwe
  clear hwe own2 fr2 beld bele belce HSC
  go_wp2_with fail
  refine hC.mono ?_
  clear hC
  rintro e wf ⟨v2, rfl, HR2, belf⟩
  rw [← HWE.out] at HR2 belf
  obtain ⟨na, nl, nc, rfl⟩ := row_slice HR2.out
  have HSF : Hid (VSt w wf #[.int .i64 k, .int .i64 n, .string s, .slice a3 l3 c3, .slice a4 l4 c4] (.slice (some ⟨g1, 0, none⟩) n1 m1) L wcc.heap.size) := HSE.out.later belf
  have HXF : Hid (wf.heap[wd.heap.size]? = some (.cells #[.int .i64 i0, .int .i64 i1, .string i2, .slice i3 il3 ic3, .slice i4 il4 ic4] 27 (0, 0))) := (belf.block _ HFP.out.2.2).trans hxe
  have HBF : Hid (Below we.heap.size we wf) := belf
  clear belf hxe HSE
  have HEQ : Hid (∀ V : World, StrRow V we.heap.size (.slice na nl nc) L → StrRow V w.heap.size (.slice (some ⟨g1, 0, none⟩) n1 m1) L → _) := fun V h1 h2 => eqStrs_any _ _ L V h1.tellS h2.tellS (by omega)
  have hC := HEQ.out wf HR2.out HSF.out.r1
  go_wp2_with fail
  refine hC.mono ?_
  clear hC
  rintro e wg ⟨rfl, belg⟩
  have HSG : Hid (VSt w wg #[.int .i64 k, .int .i64 n, .string s, .slice a3 l3 c3, .slice a4 l4 c4] (.slice (some ⟨g1, 0, none⟩) n1 m1) L wcc.heap.size) := HSF.out.later belg
  have HXG : Hid (wg.heap[wd.heap.size]? = some (.cells #[.int .i64 i0, .int .i64 i1, .string i2, .slice i3 il3 ic3, .slice i4 il4 ic4] 27 (0, 0))) := (belg.block _ (lt_row HXF.out)).trans HXF.out
  have HBG : Hid (Below we.heap.size we wg) := HBF.out.trans (belg.mono HBF.out.size)
  have HRG : Hid (StrRow wg we.heap.size (.slice na nl nc) L) := HR2.out.kept fun g hg => belg.block g (HR2.out.blk g hg).2
  clear belg HSF HXF HBF HR2
  obtain ⟨b0, b1, b2, b3, b4⟩ := five_at HSG.out.box
  obtain ⟨d0, d1, d2, d3, d4⟩ := five_at HXG.out
  have HTG : Hid (∀ X : World, Below wg.heap.size wg X → Calls Try.prog 20 #[.agg #[.int .i64 k, .int .i64 n, .string s, .slice a3 l3 c3, .slice a4 l4 c4]] X fun e V => ∃ j0 j1 j2 j3 jl3 jc3 j4 jl4 jc4, e = .returned (.agg #[.int .i64 j0, .int .i64 j1, .string j2, .slice j3 jl3 jc3, .slice j4 jl4 jc4]) ∧ Hid (ExR d V [.int .i64 j0, .int .i64 j1, .string j2, .slice j3 jl3 jc3, .slice j4 jl4 jc4] x0) ∧ Below wg.heap.size wg V) := fun X hX => by
    refine (HTO.out X (HSG.out.bel.trans (hX.mono HSG.out.bel.size))).mono ?_
    rintro e V ⟨vs3, fp3, rfl, own3, _, hB⟩
    obtain ⟨j0, j1, j2, j3, jl3, jc3, j4, jl4, jc4, rfl⟩ := HSH.out _ _ _ own3
    exact ⟨j0, j1, j2, j3, jl3, jc3, j4, jl4, jc4, rfl, ExO.reads d _ _ _ _ own3, hX.trans (hB.mono hX.size)⟩
  have HEX : Hid (∀ (V : World) (j0 j1 : Int) (j2 : ByteArray) (j3 : Option Addr) (jl3 jc3 : Nat) (j4 : Option Addr) (jl4 jc4 : Nat), Below wg.heap.size wg V → ExR d V [.int .i64 j0, .int .i64 j1, .string j2, .slice j3 jl3 jc3, .slice j4 jl4 jc4] x0 → _) := fun V j0 j1 j2 j3 jl3 jc3 j4 jl4 jc4 hV h => eqExpr_any d _ _ x0 V (ExO.reads d _ _ _ _ (HOE.out V (HBG.out.trans (hV.mono HBG.out.size)))) h HF.out
  have hlst : Below wg.heap.size wg wg.drew := (Below.refl _ _).drew
  go_wp2_with fail
  go_cut [31] (fun v wx => v = .bool false ∧ Below wg.heap.size wg wx)
  case first =>
    go_region_with (first | (go_at_call 20; refine (HTG.out _ hlst).mono ?_; rintro e V ⟨j0, j1, j2, j3, jl3, jc3, j4, jl4, jc4, rfl, HR3, hB⟩; have e0 := cell_later hB d0; have e1 := cell_later hB d1; have e2 := cell_later hB d2; have e3 := cell_later hB d3; have e4 := cell_later hB d4) | (go_at_call 22; refine (HEX.out V j0 j1 j2 j3 jl3 jc3 j4 jl4 jc4 hB HR3.out).mono ?_; rintro e V2 ⟨rfl, hB2⟩))
    all_goals
      have hbf : Below wg.heap.size wg V2 := hB.trans (hB2.mono hB.size)
      clear hB hB2
      go_wp2_with fail
      go_meet
      case rel => exact ⟨rfl, hbf⟩
  case rest =>
    obtain ⟨rfl, belh⟩ := hcut
    obtain ⟨wh, hwh⟩ : ∃ wh, wh = wc := ⟨_, rfl⟩
    subst hwh
    have HSH' : Hid (VSt w wh #[.int .i64 k, .int .i64 n, .string s, .slice a3 l3 c3, .slice a4 l4 c4] (.slice (some ⟨g1, 0, none⟩) n1 m1) L wcc.heap.size) := HSG.out.later belh
    have HXH := (belh.block _ (lt_row HXG.out)).trans HXG.out
    have HBH : Hid (Below we.heap.size we wh) := HBG.out.trans (belh.mono HBG.out.size)
    have HRH : Hid (StrRow wh we.heap.size (.slice na nl nc) L) := HRG.out.kept fun g hg => belh.block g (HRG.out.blk g hg).2
    clear b0 b1 b2 b3 b4 d0 d1 d2 d3 d4 belh HSG HXG HBG HRG HTG HEX hlst
    obtain ⟨d0, d1, d2, d3, d4⟩ := five_at HXH
    have hC := markExpr_any d _ x0 fp2 1 wh (HOE.out wh HBH.out) HFP.out.1 (by omega) (by have := ckX_le d x0; have := HZ.out; omega)
    clear HXH
    go_wp2_with fail
    refine hC.mono ?_
    clear hC d0 d1 d2 d3 d4
    rintro e wi ⟨q, rfl, hq0, hwr⟩
    have HSI : Hid (VSt w wi #[.int .i64 k, .int .i64 n, .string s, .slice a3 l3 c3, .slice a4 l4 c4] (.slice (some ⟨g1, 0, none⟩) n1 m1) L wcc.heap.size) := HSH'.out.wrote hwr fun g hg => (HFP.out.2.1 g hg).1
    have HRI : Hid (StrRow wi we.heap.size (.slice na nl nc) L) := HRH.out.kept fun g hg => hwr.block g (HRH.out.blk g hg).2 (fun hm => by have q1 := (HRH.out.blk g hg).1; have q2 := (HFP.out.2.1 g hm).2; have q3 := HFP.out.2.2; omega)
    clear hwr HSH' HRH HBH
    have hC := HEQ.out wi HRI.out HSI.out.r1
    go_wp2_with fail
    refine hC.mono ?_
    clear hC
    rintro e wj ⟨rfl, belj⟩
    have HSJ : Hid (VSt w wj #[.int .i64 k, .int .i64 n, .string s, .slice a3 l3 c3, .slice a4 l4 c4] (.slice (some ⟨g1, 0, none⟩) n1 m1) L wcc.heap.size) := HSI.out.later belj
    have HRJ : Hid (StrRow wj we.heap.size (.slice na nl nc) L) := HRI.out.kept fun g hg => belj.block g (HRI.out.blk g hg).2
    clear belj HSI HRI
    have hC := markStrs_any (.slice na nl nc) L we.heap.size 1 wj HRJ.out (by omega) (by omega)
    obtain ⟨ln, hln⟩ : ∃ ln, L.length = ln := ⟨_, rfl⟩
    rw [hln] at hC hvl
    have HLL : Hid (L.length = ln) := hln
    clear hln
    go_wp2_with fail
    refine hC.mono ?_
    clear hC
    rintro e wk ⟨rfl, hrk, hwk⟩
    have HSK : Hid (VSt w wk #[.int .i64 k, .int .i64 n, .string s, .slice a3 l3 c3, .slice a4 l4 c4] (.slice (some ⟨g1, 0, none⟩) n1 m1) L wcc.heap.size) := HSJ.out.wrote hwk fun g hg => by
      have hg' : (Value.slice na nl nc).ownBlock = some g := by simpa using hg
      have q1 := (HRJ.out.blk g hg').1
      have q3 := HFP.out.2.2
      have q4 : wcc.heap.size ≤ wd.heap.size := HWD.out
      omega
    have HRK : Hid (StrRow wk we.heap.size (.slice na nl nc) (mks 1 ln)) := hrk
    have HHS : Hid (∀ V : World, StrRow V we.heap.size (.slice na nl nc) (mks 1 ln) → _) := fun V h => heldStrs_any _ ln 1 V h.tellS (by omega) (by omega)
    clear hrk hwk HSJ HRJ
    have hC := HHS.out wk HRK.out
    go_wp2_with fail
    refine hC.mono ?_
    clear hC
    rintro e wl ⟨rfl, bell⟩
    have HSL : Hid (VSt w wl #[.int .i64 k, .int .i64 n, .string s, .slice a3 l3 c3, .slice a4 l4 c4] (.slice (some ⟨g1, 0, none⟩) n1 m1) L wcc.heap.size) := HSK.out.later bell
    have HRL : Hid (StrRow wl we.heap.size (.slice na nl nc) (mks 1 ln)) := HRK.out.kept fun g hg => bell.block g (HRK.out.blk g hg).2
    have hq1 : ¬ (1 + (ln : Int) < 0) := by omega
    clear bell HSK HRK
    obtain ⟨b0, b1, b2, b3, b4⟩ := five_at HSL.out.box
    have hC := HTO.out wl HSL.out.bel
    go_wp2_with fail
    refine hC.mono ?_
    clear hC b0 b1 b2 b3 b4
    rintro e wm ⟨vs3, fp3, rfl, own3, fr3, belm⟩
    obtain ⟨j0, j1, j2, j3, jl3, jc3, j4, jl4, jc4, rfl⟩ := HSH.out _ _ _ own3
    have HSM : Hid (VSt w wm #[.int .i64 k, .int .i64 n, .string s, .slice a3 l3 c3, .slice a4 l4 c4] (.slice (some ⟨g1, 0, none⟩) n1 m1) L wcc.heap.size) := HSL.out.later belm
    have HRM : Hid (StrRow wm we.heap.size (.slice na nl nc) (mks 1 ln)) := HRL.out.kept fun g hg => belm.block g (HRL.out.blk g hg).2
    have hC := freeOf_any d _ x0 fp3 wm own3 fr3.1 (fun g hg => (fr3.2 g hg).2) HZ.out
    rw [HLV.out] at hC
    clear own3 fr3 belm HSL HRL
    go_wp2_with fail
    refine hC.mono ?_
    clear hC
    rintro e wn ⟨v3, rfl, HR3, beln⟩
    obtain ⟨ta, tl, tc, rfl⟩ := row_slice HR3.out
    have HSN : Hid (VSt w wn #[.int .i64 k, .int .i64 n, .string s, .slice a3 l3 c3, .slice a4 l4 c4] (.slice (some ⟨g1, 0, none⟩) n1 m1) L wcc.heap.size) := HSM.out.later beln
    have HRN : Hid (StrRow wn we.heap.size (.slice na nl nc) (mks 1 ln)) := HRM.out.kept fun g hg => beln.block g (HRM.out.blk g hg).2
    have hC := eqStrs_any (.slice ta tl tc) (.slice (some ⟨g1, 0, none⟩) n1 m1) L wn HR3.out.tellS HSN.out.r1.tellS (by rw [HLL.out]; omega)
    clear beln HSM HRM HR3
    go_wp2_with fail
    refine hC.mono ?_
    clear hC
    rintro e wo ⟨rfl, belo⟩
    have HRO : Hid (StrRow wo we.heap.size (.slice na nl nc) (mks 1 ln)) := HRN.out.kept fun g hg => belo.block g (HRN.out.blk g hg).2
    have HSO : Hid (Below w.heap.size w wo) := HSN.out.bel.trans (belo.mono HSN.out.bel.size)
    clear belo HSN HRN
    have hC := HHS.out wo HRO.out
    go_wp2_with fail
    refine hC.mono ?_
    clear hC
    rintro e wp ⟨rfl, belp⟩
    have HFI : Hid (Below w.heap.size w wp) := HSO.out.trans (belp.mono HSO.out.size)
    clear belp HSO HRO
    go_wp2_with fail
    go_ret
    exact ⟨rfl, HFI.out⟩

set_option maxRecDepth 100000 in
theorem lifted (os : Os) (started : os.Started) (H : Type) (enc : TypeId × Value → H) :
    ReturnsInHanded {} Try.checked os 5 .any (Rows.fnExactFreeOfSpec.pre6 enc Try.prog Try.f5 Rows.fnExactFreeOfRow.domain false) (Rows.fnExactFreeOfSpec.post enc Try.prog Try.f5 false true false false) := by
  refine returnsInHanded_of_change (C := Try.checked) own started (by kernel_rfl) Try.func5
    (ChangeSpec.witness6 (enc := enc) (C := Try.checked) false ⟨#[], #[.agg #[.int .i64 0, .int .i64 0, .string ⟨#[]⟩, .slice none 0 0, .slice none 0 0]], []⟩ 8 (by kernel_rfl) (by kernel_rfl) (by kernel_rfl) (by kernel_rfl)) ?_
  intro W base args ds gs before hval0 hW hcnd _
  have hval : ∀ (j : Nat) t v, Try.f5.params[j]? = some t → args[j]? = some v → Value.okWide Try.prog W .any base t v := hval0
  have hW' := hW
  obtain ⟨p, q, hA0, hV, rfl, hfz, hnd⟩ := hW
  have hA : DataW.TrodAll enc Try.prog W 0 (fun _ => true) true Try.f5.params.toList args.toList ds p := hA0
  rw [Try.params5] at hA hval
  obtain ⟨v0, vs0, d0, ds0, p0, q0, hargs, rfl, rfl, h0, rr0⟩ := trodAll_cons hA
  obtain ⟨rfl, rfl, rfl⟩ := trodAll_nil rr0
  obtain rfl : args = #[v0] := by cases args; simp_all
  obtain ⟨rfl, rfl⟩ := trodVars_none hV
  have kk0 := h0
  have lt0 : ∀ x ∈ p0, x.block < W.heap.size := by obtain ⟨m, hm⟩ := kk0; exact DataW.trod_lt m _ _ _ hm
  obtain ⟨M0, R0⟩ := read_expr (hval 0 38 v0 rfl rfl) h0
  obtain ⟨d, hd⟩ : ∃ d, d = M0 := ⟨_, rfl⟩
  obtain ⟨vs0, x0, rfl, r0, f0⟩ := R0 d (by omega)
  clear hA0 hval0
  refine (walk d W vs0 x0 r0 f0).mono fun e W' ⟨he, bel⟩ => ?_
  subst he
  exact ⟨_, rfl, _, _, _, [], _, [], hW', trodAll_mk1 (shut_bool Try.underlying4 _), (trodAll_cons_mk (Below.trod laidOut (by kernel_rfl) (of_decide_eq_true (by kernel_rfl)) kk0 bel lt0) trodAll_mk0), rfl, bel.frame _, fun h => by cases h⟩

theorem over : Rows.fnExactFreeOfRow.holds Try.pinned (OpenSpec.ofChange Rows.fnExactFreeOfSpec) :=
  OpenClaim.holds_of_wide 5 Try.f5 rfl rfl rfl rfl rfl rfl rfl ⟨rfl, rfl, rfl, rfl, rfl⟩ rfl rfl rfl rfl rfl (by kernel_rfl) Try.func5 (by kernel_rfl)
    (of_decide_eq_true (by kernel_rfl)) (by unfold Func.isWrapper; first | (rw [if_pos (by decide +kernel)]; kernel_rfl) | (rw [if_neg (by decide +kernel)]; exact ⟨rfl, rfl⟩))
    (fun os started H enc _ => lifted os started H enc)

end Go.Proofs.Ytpokheklplcamaa.fnExactFreeOf
namespace Go.Proofs.Ytpokheklplcamaa
/-- THE STATEMENT. -/
theorem fnExactFreeOf_said : Rows.FnExactFreeOfSaid := fnExactFreeOf.over
#print axioms fnExactFreeOf_said
end Go.Proofs.Ytpokheklplcamaa
