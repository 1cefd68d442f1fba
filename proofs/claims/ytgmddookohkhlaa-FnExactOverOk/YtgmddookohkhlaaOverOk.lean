/- FnExactOverOk: at every overseer (that can be read as data, within the law's own bound) the program's OverOk answers as the model's and leaves its argument as it was: no other condition. (The frame round the walk is the guide's own way.) -/
import Derived.Test.YtgmddookohkhlaaKo2M
import Derived.Test.YtgmddookohkhlaaTReadM
import Derived.WalkKit
import Derived.ProofKit
import Derived.OpenShut
import Derived.ShutString
import Derived.ChangeOld
import Derived.Below
namespace Go.Proofs.Ytgmddookohkhlaa.fnExactOverOk
open Go.ChangeShapes Go.WideShapes Go.ChangeAt Go.RowKit
open Go.ChangeMaps (open_string shut_string)
set_option linter.unusedVariables false

theorem own : ownKnob Try.prog.godebug = none := by kernel_rfl
theorem laidOut : laidOutB Try.prog = true := by kernel_rfl

set_option maxRecDepth 100000 in
set_option maxHeartbeats 8000000 in
theorem walk (d : Nat) (w : World) (vs0 : List Value) (x0 : DOver d) (r0 : OverR d w vs0 x0) (f0 : WfOver d x0) :
    Calls Try.prog 3 #[.agg vs0.toArray] w fun e w' => e = .returned (.bool true) ∧ Below w.heap.size w w' := by
  obtain ⟨pi0, pi1, pi2, pa3, pl3, pc3, pa4, pl4, pc4, pa5, pl5, pc5, pt6, rfl⟩ := OverR.shape d _ _ _ r0
  have HR : Hid (∀ V : World, Below w.heap.size w V → OverR d V [.int .i64 pi0, .int .i64 pi1, .int .i64 pi2, .slice pa3 pl3 pc3, .slice pa4 pl4 pc4, .slice pa5 pl5 pc5, .bool pt6] x0) := fun V hV => OverR.lasts d _ _ _ _ r0 hV
  have HF : Hid (WfOver d x0) := f0
  have HSH : Hid (∀ (V : World) (vs : List Value) (fp : List Nat), OverO d V vs x0 fp → ShOver vs) := fun V vs fp h => OverO.shape d V vs x0 fp h
  obtain ⟨W0, hW0⟩ : ∃ W, W = w.alloc (.cells #[.int .i64 pi0, .int .i64 pi1, .int .i64 pi2, .slice pa3 pl3 pc3, .slice pa4 pl4 pc4, .slice pa5 pl5 pc5, .bool pt6] 25) := ⟨_, rfl⟩
  have bel0 : Below w.heap.size w W0 := by rw [hW0]; exact (Below.refl _ _).alloc (Nat.le_refl _) _
  have box0 : W0.heap[w.heap.size]? = some (.cells #[.int .i64 pi0, .int .i64 pi1, .int .i64 pi2, .slice pa3 pl3 pc3, .slice pa4 pl4 pc4, .slice pa5 pl5 pc5, .bool pt6] 25 (0, 0)) := by rw [hW0]; exact heap_alloc_new w _
  have hC := szOver_any d [.int .i64 pi0, .int .i64 pi1, .int .i64 pi2, .slice pa3 pl3 pc3, .slice pa4 pl4 pc4, .slice pa5 pl5 pc5, .bool pt6] x0 1048576 W0 (HR.out W0 bel0) HF.out (by omega) (by omega)
  rw [hW0] at hC
  have HW0 : Hid (W0 = _) := hW0
  have hmx : maxLen ≤ 9223372036854775807 := by decide
  clear r0 f0 hW0
  go_enter Try.func3, Try.ntmps3
  go_wp2_with fail
  refine hC.mono ?_
  clear hC
  rintro e wa ⟨rfl, bela⟩
  rw [← HW0.out] at bela
  have boxa := (bela.block _ (lt_row box0)).trans box0
  have belA : Below w.heap.size w wa := bel0.trans (bela.mono bel0.size)
  clear bel0 bela box0 HW0
  by_cases hz : szOverD d x0 ≤ 1048576
  case neg =>
    have hl : lft 1048576 (szOverD d x0) = -1 := by unfold lft; rw [if_neg (by omega)]
    rw [hl]
    clear hz hl boxa
    go_wp2_with fail
    go_ret
    exact ⟨rfl, belA⟩
  obtain ⟨x, hx, hxp⟩ : ∃ x : Int, lft 1048576 (szOverD d x0) = x ∧ 0 ≤ x := ⟨_, rfl, by unfold lft; rw [if_pos (by omega)]; omega⟩
  rw [hx]
  have HZ : Hid (szOverD d x0 ≤ 1048576) := hz
  clear hz hx
  have HTO : Hid (∀ V : World, Below w.heap.size w V → _) := fun V hV => toOver_any d [.int .i64 pi0, .int .i64 pi1, .int .i64 pi2, .slice pa3 pl3 pc3, .slice pa4 pl4 pc4, .slice pa5 pl5 pc5, .bool pt6] x0 V (HR.out V hV) HF.out HZ.out
  have b0 : wa.cell? ⟨w.heap.size, 0, none⟩ = some (.int .i64 pi0) := by rw [cell_of_row wa _ 0 _ _ _ boxa]; rfl
  have b1 : wa.cell? ⟨w.heap.size, 1, none⟩ = some (.int .i64 pi1) := by rw [cell_of_row wa _ 1 _ _ _ boxa]; rfl
  have b2 : wa.cell? ⟨w.heap.size, 2, none⟩ = some (.int .i64 pi2) := by rw [cell_of_row wa _ 2 _ _ _ boxa]; rfl
  have b3 : wa.cell? ⟨w.heap.size, 3, none⟩ = some (.slice pa3 pl3 pc3) := by rw [cell_of_row wa _ 3 _ _ _ boxa]; rfl
  have b4 : wa.cell? ⟨w.heap.size, 4, none⟩ = some (.slice pa4 pl4 pc4) := by rw [cell_of_row wa _ 4 _ _ _ boxa]; rfl
  have b5 : wa.cell? ⟨w.heap.size, 5, none⟩ = some (.slice pa5 pl5 pc5) := by rw [cell_of_row wa _ 5 _ _ _ boxa]; rfl
  have b6 : wa.cell? ⟨w.heap.size, 6, none⟩ = some (.bool pt6) := by rw [cell_of_row wa _ 6 _ _ _ boxa]; rfl
  go_wp2_with fail
  refine (HTO.out wa belA).mono ?_
  rintro e wb ⟨vs1, fp1, rfl, own1, fr1, belb⟩
  obtain ⟨qi0, qi1, qi2, qa3, ql3, qc3, qa4, ql4, qc4, qa5, ql5, qc5, qt6, rfl⟩ := HSH.out _ _ _ own1
  clear b0 b1 b2 b3 b4 b5 b6
  have boxb := (belb.block _ (lt_row boxa)).trans boxa
  have belB : Below w.heap.size w wb := belA.trans (belb.mono belA.size)
  have hC := specOverOk_any d [.int .i64 qi0, .int .i64 qi1, .int .i64 qi2, .slice qa3 ql3 qc3, .slice qa4 ql4 qc4, .slice qa5 ql5 qc5, .bool qt6] x0  wb (OverO.reads d _ _ _ _ own1) HF.out HZ.out  
  clear own1 fr1 belb boxa belA
  go_wp2_with fail
  refine hC.mono ?_
  clear hC
  rintro e wcc ⟨g1, rfl, hg1, belc⟩
  have HG1 : Hid (_ ↔ _) := hg1
  clear hg1
  have boxc := (belc.block _ (lt_row boxb)).trans boxb
  have belC : Below w.heap.size w wcc := belB.trans (belc.mono belB.size)
  clear belc boxb belB
  have b0 : wcc.cell? ⟨w.heap.size, 0, none⟩ = some (.int .i64 pi0) := by rw [cell_of_row wcc _ 0 _ _ _ boxc]; rfl
  have b1 : wcc.cell? ⟨w.heap.size, 1, none⟩ = some (.int .i64 pi1) := by rw [cell_of_row wcc _ 1 _ _ _ boxc]; rfl
  have b2 : wcc.cell? ⟨w.heap.size, 2, none⟩ = some (.int .i64 pi2) := by rw [cell_of_row wcc _ 2 _ _ _ boxc]; rfl
  have b3 : wcc.cell? ⟨w.heap.size, 3, none⟩ = some (.slice pa3 pl3 pc3) := by rw [cell_of_row wcc _ 3 _ _ _ boxc]; rfl
  have b4 : wcc.cell? ⟨w.heap.size, 4, none⟩ = some (.slice pa4 pl4 pc4) := by rw [cell_of_row wcc _ 4 _ _ _ boxc]; rfl
  have b5 : wcc.cell? ⟨w.heap.size, 5, none⟩ = some (.slice pa5 pl5 pc5) := by rw [cell_of_row wcc _ 5 _ _ _ boxc]; rfl
  have b6 : wcc.cell? ⟨w.heap.size, 6, none⟩ = some (.bool pt6) := by rw [cell_of_row wcc _ 6 _ _ _ boxc]; rfl
  go_wp2_with fail
  refine (HTO.out wcc belC).mono ?_
  rintro e wd ⟨vs2, fp2, rfl, own2, fr2, beld⟩
  obtain ⟨ri0, ri1, ri2, ra3, rl3, rc3, ra4, rl4, rc4, ra5, rl5, rc5, rt6, rfl⟩ := HSH.out _ _ _ own2
  clear b0 b1 b2 b3 b4 b5 b6
  obtain ⟨we, hwe⟩ : ∃ we, we = wd.alloc (.cells #[.int .i64 ri0, .int .i64 ri1, .int .i64 ri2, .slice ra3 rl3 rc3, .slice ra4 rl4 rc4, .slice ra5 rl5 rc5, .bool rt6] 30) := ⟨_, rfl⟩
  have bele : Below wd.heap.size wd we := by rw [hwe]; exact (Below.refl _ _).alloc (Nat.le_refl _) _
  have hxe : we.heap[wd.heap.size]? = some (.cells #[.int .i64 ri0, .int .i64 ri1, .int .i64 ri2, .slice ra3 rl3 rc3, .slice ra4 rl4 rc4, .slice ra5 rl5 rc5, .bool rt6] 30 (0, 0)) := by rw [hwe]; exact heap_alloc_new wd _
  have belce : Below wcc.heap.size wcc we := beld.trans (bele.mono beld.size)
  have boxe := (belce.block _ (lt_row boxc)).trans boxc
  have belE : Below w.heap.size w we := belC.trans (belce.mono belC.size)
  have HOE : Hid (∀ V : World, Below we.heap.size we V → OverO d V [.int .i64 ri0, .int .i64 ri1, .int .i64 ri2, .slice ra3 rl3 rc3, .slice ra4 rl4 rc4, .slice ra5 rl5 rc5, .bool rt6] x0 fp2) := fun V hV => OverO.lasts d _ _ _ _ _ own2 fun g hg => (hV.block g (Nat.lt_of_lt_of_le (fr2.2 g hg).2 bele.size)).trans (bele.block g (fr2.2 g hg).2)
  have hC := implOverOk_any d [.int .i64 ri0, .int .i64 ri1, .int .i64 ri2, .slice ra3 rl3 rc3, .slice ra4 rl4 rc4, .slice ra5 rl5 rc5, .bool rt6] x0  we (OverO.reads d _ _ _ _ (HOE.out we (Below.refl _ _))) HF.out HZ.out  
  rw [hwe] at hC
  have HWE : Hid (we = _) := hwe
  clear hwe own2 fr2 beld bele belce boxc belC
  go_wp2_with fail
  refine hC.mono ?_
  clear hC
  rintro e wg ⟨g2, rfl, hg2, belg⟩
  have hgg : g1 = g2 := by
    have h1 := HG1.out
    cases g1 <;> cases g2
    · rfl
    · exact h1.2 (hg2.1 rfl)
    · exact (hg2.2 (h1.1 rfl)).symm
    · rfl
  subst hgg
  clear hg2
  rw [← HWE.out] at belg
  have hxg := (belg.block _ (lt_row hxe)).trans hxe
  have HBG : Hid (Below we.heap.size we wg) := belg
  have hboxg := (belg.block _ (lt_row boxe)).trans boxe
  have HSG : Hid (Below w.heap.size w wg) := belE.trans (belg.mono belE.size)
  have b0 : wg.cell? ⟨w.heap.size, 0, none⟩ = some (.int .i64 pi0) := by rw [cell_of_row wg _ 0 _ _ _ hboxg]; rfl
  have d0 : wg.cell? ⟨wd.heap.size, 0, none⟩ = some (.int .i64 ri0) := by rw [cell_of_row wg _ 0 _ _ _ hxg]; rfl
  have b1 : wg.cell? ⟨w.heap.size, 1, none⟩ = some (.int .i64 pi1) := by rw [cell_of_row wg _ 1 _ _ _ hboxg]; rfl
  have d1 : wg.cell? ⟨wd.heap.size, 1, none⟩ = some (.int .i64 ri1) := by rw [cell_of_row wg _ 1 _ _ _ hxg]; rfl
  have b2 : wg.cell? ⟨w.heap.size, 2, none⟩ = some (.int .i64 pi2) := by rw [cell_of_row wg _ 2 _ _ _ hboxg]; rfl
  have d2 : wg.cell? ⟨wd.heap.size, 2, none⟩ = some (.int .i64 ri2) := by rw [cell_of_row wg _ 2 _ _ _ hxg]; rfl
  have b3 : wg.cell? ⟨w.heap.size, 3, none⟩ = some (.slice pa3 pl3 pc3) := by rw [cell_of_row wg _ 3 _ _ _ hboxg]; rfl
  have d3 : wg.cell? ⟨wd.heap.size, 3, none⟩ = some (.slice ra3 rl3 rc3) := by rw [cell_of_row wg _ 3 _ _ _ hxg]; rfl
  have b4 : wg.cell? ⟨w.heap.size, 4, none⟩ = some (.slice pa4 pl4 pc4) := by rw [cell_of_row wg _ 4 _ _ _ hboxg]; rfl
  have d4 : wg.cell? ⟨wd.heap.size, 4, none⟩ = some (.slice ra4 rl4 rc4) := by rw [cell_of_row wg _ 4 _ _ _ hxg]; rfl
  have b5 : wg.cell? ⟨w.heap.size, 5, none⟩ = some (.slice pa5 pl5 pc5) := by rw [cell_of_row wg _ 5 _ _ _ hboxg]; rfl
  have d5 : wg.cell? ⟨wd.heap.size, 5, none⟩ = some (.slice ra5 rl5 rc5) := by rw [cell_of_row wg _ 5 _ _ _ hxg]; rfl
  have b6 : wg.cell? ⟨w.heap.size, 6, none⟩ = some (.bool pt6) := by rw [cell_of_row wg _ 6 _ _ _ hboxg]; rfl
  have d6 : wg.cell? ⟨wd.heap.size, 6, none⟩ = some (.bool rt6) := by rw [cell_of_row wg _ 6 _ _ _ hxg]; rfl
  clear belg hxe boxe belE HG1 hxg hboxg
  have HTG : Hid (∀ V0 : World, Below wg.heap.size wg V0 → Calls Try.prog 9 #[.agg #[.int .i64 pi0, .int .i64 pi1, .int .i64 pi2, .slice pa3 pl3 pc3, .slice pa4 pl4 pc4, .slice pa5 pl5 pc5, .bool pt6]] V0 fun e V => ∃ (si0 : Int) (si1 : Int) (si2 : Int) (sa3 : Option Addr) (sl3 sc3 : Nat) (sa4 : Option Addr) (sl4 sc4 : Nat) (sa5 : Option Addr) (sl5 sc5 : Nat) (st6 : Bool), e = .returned (.agg #[.int .i64 si0, .int .i64 si1, .int .i64 si2, .slice sa3 sl3 sc3, .slice sa4 sl4 sc4, .slice sa5 sl5 sc5, .bool st6]) ∧ Hid (OverR d V [.int .i64 si0, .int .i64 si1, .int .i64 si2, .slice sa3 sl3 sc3, .slice sa4 sl4 sc4, .slice sa5 sl5 sc5, .bool st6] x0) ∧ Below wg.heap.size wg V) := fun V0 hX => by
    refine (HTO.out V0 (HSG.out.trans (hX.mono HSG.out.size))).mono ?_
    rintro e V ⟨vs3, fp3, rfl, own3, _, hB⟩
    obtain ⟨si0, si1, si2, sa3, sl3, sc3, sa4, sl4, sc4, sa5, sl5, sc5, st6, rfl⟩ := HSH.out _ _ _ own3
    exact ⟨si0, si1, si2, sa3, sl3, sc3, sa4, sl4, sc4, sa5, sl5, sc5, st6, rfl, OverO.reads d _ _ _ _ own3, hX.trans (hB.mono hX.size)⟩
  have HEX : Hid (∀ (V : World) (si0 : Int) (si1 : Int) (si2 : Int) (sa3 : Option Addr) (sl3 sc3 : Nat) (sa4 : Option Addr) (sl4 sc4 : Nat) (sa5 : Option Addr) (sl5 sc5 : Nat) (st6 : Bool), Below wg.heap.size wg V → OverR d V [.int .i64 si0, .int .i64 si1, .int .i64 si2, .slice sa3 sl3 sc3, .slice sa4 sl4 sc4, .slice sa5 sl5 sc5, .bool st6] x0 → _) := fun V si0 si1 si2 sa3 sl3 sc3 sa4 sl4 sc4 sa5 sl5 sc5 st6 hV h => eqOver_any d [.int .i64 ri0, .int .i64 ri1, .int .i64 ri2, .slice ra3 rl3 rc3, .slice ra4 rl4 rc4, .slice ra5 rl5 rc5, .bool rt6] [.int .i64 si0, .int .i64 si1, .int .i64 si2, .slice sa3 sl3 sc3, .slice sa4 sl4 sc4, .slice sa5 sl5 sc5, .bool st6] x0 V (OverO.reads d _ _ _ _ (HOE.out V (HBG.out.trans (hV.mono HBG.out.size)))) h HF.out
  have hlst : Below wg.heap.size wg wg.drew := (Below.refl _ _).drew
  have hbb : (g1 == g1) = true := by cases g1 <;> rfl
  have hbn : (g1 != g1) = false := by simp
  go_wp2_with fail
  go_region_with (first | (go_at_call 9; refine (HTG.out _ hlst).mono ?_; rintro e V ⟨si0, si1, si2, sa3, sl3, sc3, sa4, sl4, sc4, sa5, sl5, sc5, st6, rfl, HR3, hB⟩; have e0 := cell_later hB d0; have e1 := cell_later hB d1; have e2 := cell_later hB d2; have e3 := cell_later hB d3; have e4 := cell_later hB d4; have e5 := cell_later hB d5; have e6 := cell_later hB d6) | (go_at_call 11; refine (HEX.out V si0 si1 si2 sa3 sl3 sc3 sa4 sl4 sc4 sa5 sl5 sc5 st6 hB HR3.out).mono ?_; rintro e V2 ⟨rfl, hB2⟩))
  all_goals
    have hbf : Below w.heap.size w V2 := HSG.out.trans ((hB.trans (hB2.mono hB.size)).mono HSG.out.size)
    clear hB hB2
    go_wp2_with fail
    go_ret
    exact ⟨rfl, hbf⟩

set_option maxRecDepth 100000 in
theorem lifted (os : Os) (started : os.Started) (H : Type) (enc : TypeId × Value → H) :
    ReturnsInHanded {} Try.checked os 3 .any (Rows.fnExactOverOkSpec.pre6 enc Try.prog Try.f3 Rows.fnExactOverOkRow.domain false) (Rows.fnExactOverOkSpec.post enc Try.prog Try.f3 false true false false) := by
  refine returnsInHanded_of_change (C := Try.checked) own started (by kernel_rfl) Try.func3
    (ChangeSpec.witness6 (enc := enc) (C := Try.checked) false ⟨#[], #[.agg #[.int .i64 0, .int .i64 0, .int .i64 0, .slice none 0 0, .slice none 0 0, .slice none 0 0, .bool false]], []⟩ 8 (by kernel_rfl) (by kernel_rfl) (by kernel_rfl) (by kernel_rfl)) ?_
  intro W base args ds gs before hval0 hW hcnd _
  have hval : ∀ (j : Nat) t v, Try.f3.params[j]? = some t → args[j]? = some v → Value.okWide Try.prog W .any base t v := hval0
  have hW' := hW
  obtain ⟨p, q, hA0, hV, rfl, hfz, hnd⟩ := hW
  have hA : DataW.TrodAll enc Try.prog W 0 (fun _ => true) true Try.f3.params.toList args.toList ds p := hA0
  rw [Try.params3] at hA hval
  obtain ⟨v0, vs0, d0, ds0, p0, q0, hargs, rfl, rfl, h0, rr0⟩ := trodAll_cons hA
  obtain ⟨rfl, rfl, rfl⟩ := trodAll_nil rr0
  obtain rfl : args = #[v0] := by cases args; simp_all
  obtain ⟨rfl, rfl⟩ := trodVars_none hV
  have kk0 := h0
  have lt0 : ∀ x ∈ p0, x.block < W.heap.size := by obtain ⟨m, hm⟩ := kk0; exact DataW.trod_lt m _ _ _ hm
  obtain ⟨M0, R0⟩ := read_Over (hval 0 25 v0 rfl rfl) h0
  obtain ⟨d, hd⟩ : ∃ d, d = M0 := ⟨_, rfl⟩
  obtain ⟨vs0, x0, rfl, r0, f0⟩ := R0 d (by omega)
  clear hA0 hval0
  refine (walk d W vs0 x0 r0 f0).mono fun e W' ⟨he, bel⟩ => ?_
  subst he
  exact ⟨_, rfl, _, _, _, [], _, [], hW', trodAll_mk1 (shut_bool Try.underlying4 _), (trodAll_cons_mk (Below.trod laidOut (by kernel_rfl) (of_decide_eq_true (by kernel_rfl)) kk0 bel lt0) trodAll_mk0), rfl, bel.frame _, fun h => by cases h⟩

theorem over : Rows.fnExactOverOkRow.holds Try.pinned (OpenSpec.ofChange Rows.fnExactOverOkSpec) :=
  OpenClaim.holds_of_wide 3 Try.f3 rfl rfl rfl rfl rfl rfl rfl ⟨rfl, rfl, rfl, rfl, rfl⟩ rfl rfl rfl rfl rfl (by kernel_rfl) Try.func3 (by kernel_rfl)
    (of_decide_eq_true (by kernel_rfl)) (by unfold Func.isWrapper; first | (rw [if_pos (by decide +kernel)]; kernel_rfl) | (rw [if_neg (by decide +kernel)]; exact ⟨rfl, rfl⟩))
    (fun os started H enc _ => lifted os started H enc)

end Go.Proofs.Ytgmddookohkhlaa.fnExactOverOk
namespace Go.Proofs.Ytgmddookohkhlaa
/-- THE STATEMENT. -/
theorem fnExactOverOk_said : Rows.FnExactOverOkSaid := fnExactOverOk.over
#print axioms fnExactOverOk_said
end Go.Proofs.Ytgmddookohkhlaa
