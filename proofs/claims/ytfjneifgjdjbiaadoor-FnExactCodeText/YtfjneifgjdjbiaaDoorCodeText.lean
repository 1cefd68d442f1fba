/- FnExactCodeText: at every code (a struct that can be read as data, within the law's own bound) the program's CodeText answers as the model's, and leaves its argument as it was; the tables are as the texts lay them (the card ties them). (The frame round the walk is the guide's own way.) -/
import Derived.Test.YtfjneifgjdjbiaaDoorCt3M
import Derived.Test.YtfjneifgjdjbiaaDoorCt2M
import Derived.Test.YtfjneifgjdjbiaaDoorCk5M
import Derived.Test.YtfjneifgjdjbiaaDoorTmM
import Derived.Test.YtfjneifgjdjbiaaDoorTie
import Derived.Test.YtfjneifgjdjbiaaDoorCards
import Derived.WalkKit
import Derived.ProofKit
import Derived.LaidMore
import Derived.OpenVars
import Derived.ChangeVars
import Derived.OpenShut
import Derived.ShutString
import Derived.ChangeOld
import Derived.Below
import Derived.Stop.Joined
import Derived.Stop.LaidErr
import Derived.SevenTiedAt
namespace Go.Proofs.YtfjneifgjdjbiaaDoor.fnExactCodeText
open Go.ChangeShapes Go.WideShapes Go.ChangeAt Go.RowKit
open Go.ChangeMaps (open_string shut_string)
set_option linter.unusedVariables false

theorem own : ownKnob Tryd.prog.godebug = none := by kernel_rfl
theorem laidOut : laidOutB Tryd.prog = true := by kernel_rfl

set_option maxHeartbeats 1000000 in
theorem walk (d : Nat) (w : World) (htab : TabsOk w) (vs0 : List Value) (x0 : DCode d) (r0 : CodeR d w vs0 x0) (f0 : WfCode d x0) :
    Calls Tryd.prog 3 #[.agg vs0.toArray] w fun e w' => e = .returned (.bool true) ∧ Below w.heap.size w w' := by
  have HTB : Hid (∀ V : World, Below w.heap.size w V → TabsOk V) := fun V hV => htab.later hV
  clear htab
  obtain ⟨pa0, pl0, pc0, pa1, pl1, pc1, rfl⟩ := CodeR.shape d _ _ _ r0
  have HR : Hid (∀ V : World, Below w.heap.size w V → CodeR d V [.slice pa0 pl0 pc0, .slice pa1 pl1 pc1] x0) := fun V hV => CodeR.lasts d _ _ _ _ r0 hV
  have HF : Hid (WfCode d x0) := f0
  have HSH : Hid (∀ (V : World) (vs : List Value) (fp : List Nat), CodeO d V vs x0 fp → ShCode vs) := fun V vs fp h => CodeO.shape d V vs x0 fp h
  obtain ⟨W0, hW0⟩ : ∃ W, W = w.alloc (.cells #[.slice pa0 pl0 pc0, .slice pa1 pl1 pc1] 25) := ⟨_, rfl⟩
  have bel0 : Below w.heap.size w W0 := by rw [hW0]; exact (Below.refl _ _).alloc (Nat.le_refl _) _
  have box0 : W0.heap[w.heap.size]? = some (.cells #[.slice pa0 pl0 pc0, .slice pa1 pl1 pc1] 25 (0, 0)) := by rw [hW0]; exact heap_alloc_new w _
  have hC := szCode_any d [.slice pa0 pl0 pc0, .slice pa1 pl1 pc1] x0 1048576 W0 (HR.out W0 bel0) HF.out (by omega) (by omega)
  rw [hW0] at hC
  have HW0 : Hid (W0 = _) := hW0
  have hmx : maxLen ≤ 9223372036854775807 := by decide
  clear r0 f0 hW0
  go_enter Tryd.func3, Tryd.ntmps3
  go_wp2_with fail
  refine hC.mono ?_
  clear hC
  rintro e wa ⟨rfl, bela⟩
  rw [← HW0.out] at bela
  have boxa := (bela.block _ (lt_row box0)).trans box0
  have belA : Below w.heap.size w wa := bel0.trans (bela.mono bel0.size)
  clear bel0 bela box0 HW0
  by_cases hz : szCodeD d x0 ≤ 1048576
  case neg =>
    have hl : lft 1048576 (szCodeD d x0) = -1 := by unfold lft; rw [if_neg (by omega)]
    rw [hl]
    clear hz hl boxa
    go_wp2_with fail
    go_ret
    exact ⟨rfl, belA⟩
  obtain ⟨x, hx, hxp⟩ : ∃ x : Int, lft 1048576 (szCodeD d x0) = x ∧ 0 ≤ x := ⟨_, rfl, by unfold lft; rw [if_pos (by omega)]; omega⟩
  rw [hx]
  have HZ : Hid (szCodeD d x0 ≤ 1048576) := hz
  clear hz hx
  have HTO : Hid (∀ V : World, Below w.heap.size w V → _) := fun V hV => toCode_any d [.slice pa0 pl0 pc0, .slice pa1 pl1 pc1] x0 V (HR.out V hV) HF.out HZ.out
  have b0 : wa.cell? ⟨w.heap.size, 0, none⟩ = some (.slice pa0 pl0 pc0) := by rw [cell_of_row wa _ 0 _ _ _ boxa]; rfl
  have b1 : wa.cell? ⟨w.heap.size, 1, none⟩ = some (.slice pa1 pl1 pc1) := by rw [cell_of_row wa _ 1 _ _ _ boxa]; rfl
  go_wp2_with fail
  refine (HTO.out wa belA).mono ?_
  rintro e wb ⟨vs1, fp1, rfl, own1, fr1, belb⟩
  obtain ⟨qa0, ql0, qc0, qa1, ql1, qc1, rfl⟩ := HSH.out _ _ _ own1
  clear b0 b1
  have boxb := (belb.block _ (lt_row boxa)).trans boxa
  have belB : Below w.heap.size w wb := belA.trans (belb.mono belA.size)
  have hC := specCodeText_any d [.slice qa0 ql0 qc0, .slice qa1 ql1 qc1] x0  wb (CodeO.reads d _ _ _ _ own1) HF.out HZ.out  
  clear own1 fr1 belb boxa belA
  go_wp2_with fail
  refine hC.mono ?_
  clear hC
  rintro e wcc ⟨g1, rfl, HG1, belc⟩
  have boxc := (belc.block _ (lt_row boxb)).trans boxb
  have belC : Below w.heap.size w wcc := belB.trans (belc.mono belB.size)
  clear belc boxb belB
  have b0 : wcc.cell? ⟨w.heap.size, 0, none⟩ = some (.slice pa0 pl0 pc0) := by rw [cell_of_row wcc _ 0 _ _ _ boxc]; rfl
  have b1 : wcc.cell? ⟨w.heap.size, 1, none⟩ = some (.slice pa1 pl1 pc1) := by rw [cell_of_row wcc _ 1 _ _ _ boxc]; rfl
  go_wp2_with fail
  refine (HTO.out wcc belC).mono ?_
  rintro e wd ⟨vs2, fp2, rfl, own2, fr2, beld⟩
  obtain ⟨ra0, rl0, rc0, ra1, rl1, rc1, rfl⟩ := HSH.out _ _ _ own2
  clear b0 b1
  obtain ⟨we, hwe⟩ : ∃ we, we = wd.alloc (.cells #[.slice ra0 rl0 rc0, .slice ra1 rl1 rc1] 31) := ⟨_, rfl⟩
  have bele : Below wd.heap.size wd we := by rw [hwe]; exact (Below.refl _ _).alloc (Nat.le_refl _) _
  have hxe : we.heap[wd.heap.size]? = some (.cells #[.slice ra0 rl0 rc0, .slice ra1 rl1 rc1] 31 (0, 0)) := by rw [hwe]; exact heap_alloc_new wd _
  have belce : Below wcc.heap.size wcc we := beld.trans (bele.mono beld.size)
  have boxe := (belce.block _ (lt_row boxc)).trans boxc
  have belE : Below w.heap.size w we := belC.trans (belce.mono belC.size)
  have HOE : Hid (∀ V : World, Below we.heap.size we V → CodeO d V [.slice ra0 rl0 rc0, .slice ra1 rl1 rc1] x0 fp2) := fun V hV => CodeO.lasts d _ _ _ _ _ own2 fun g hg => (hV.block g (Nat.lt_of_lt_of_le (fr2.2 g hg).2 bele.size)).trans (bele.block g (fr2.2 g hg).2)
  have hC := implCodeText_any d [.slice ra0 rl0 rc0, .slice ra1 rl1 rc1] x0  we (CodeO.reads d _ _ _ _ (HOE.out we (Below.refl _ _))) HF.out HZ.out   (HTB.out we belE)
  rw [hwe] at hC
  have HWE : Hid (we = _) := hwe
  clear hwe own2 fr2 beld bele belce boxc belC
  go_wp2_with fail
  refine hC.mono ?_
  clear hC
  rintro e wg ⟨g2, rfl, hg2, belg⟩
  have hgg : g1 = g2 := CodeTextT.same HG1.out hg2.out
  subst hgg
  clear hg2
  rw [← HWE.out] at belg
  have hxg := (belg.block _ (lt_row hxe)).trans hxe
  have HBG : Hid (Below we.heap.size we wg) := belg
  have hboxg := (belg.block _ (lt_row boxe)).trans boxe
  have HSG : Hid (Below w.heap.size w wg) := belE.trans (belg.mono belE.size)
  have b0 : wg.cell? ⟨w.heap.size, 0, none⟩ = some (.slice pa0 pl0 pc0) := by rw [cell_of_row wg _ 0 _ _ _ hboxg]; rfl
  have d0 : wg.cell? ⟨wd.heap.size, 0, none⟩ = some (.slice ra0 rl0 rc0) := by rw [cell_of_row wg _ 0 _ _ _ hxg]; rfl
  have b1 : wg.cell? ⟨w.heap.size, 1, none⟩ = some (.slice pa1 pl1 pc1) := by rw [cell_of_row wg _ 1 _ _ _ hboxg]; rfl
  have d1 : wg.cell? ⟨wd.heap.size, 1, none⟩ = some (.slice ra1 rl1 rc1) := by rw [cell_of_row wg _ 1 _ _ _ hxg]; rfl
  clear belg hxe boxe belE HG1 hxg hboxg
  have HTG : Hid (∀ V0 : World, Below wg.heap.size wg V0 → Calls Tryd.prog 6 #[.agg #[.slice pa0 pl0 pc0, .slice pa1 pl1 pc1]] V0 fun e V => ∃ (sa0 : Option Addr) (sl0 sc0 : Nat) (sa1 : Option Addr) (sl1 sc1 : Nat), e = .returned (.agg #[.slice sa0 sl0 sc0, .slice sa1 sl1 sc1]) ∧ Hid (CodeR d V [.slice sa0 sl0 sc0, .slice sa1 sl1 sc1] x0) ∧ Below wg.heap.size wg V) := fun V0 hX => by
    refine (HTO.out V0 (HSG.out.trans (hX.mono HSG.out.size))).mono ?_
    rintro e V ⟨vs3, fp3, rfl, own3, _, hB⟩
    obtain ⟨sa0, sl0, sc0, sa1, sl1, sc1, rfl⟩ := HSH.out _ _ _ own3
    exact ⟨sa0, sl0, sc0, sa1, sl1, sc1, rfl, CodeO.reads d _ _ _ _ own3, hX.trans (hB.mono hX.size)⟩
  have HEX : Hid (∀ (V : World) (sa0 : Option Addr) (sl0 sc0 : Nat) (sa1 : Option Addr) (sl1 sc1 : Nat), Below wg.heap.size wg V → CodeR d V [.slice sa0 sl0 sc0, .slice sa1 sl1 sc1] x0 → _) := fun V sa0 sl0 sc0 sa1 sl1 sc1 hV h => eqCode_any d [.slice ra0 rl0 rc0, .slice ra1 rl1 rc1] [.slice sa0 sl0 sc0, .slice sa1 sl1 sc1] x0 V (CodeO.reads d _ _ _ _ (HOE.out V (HBG.out.trans (hV.mono HBG.out.size)))) h HF.out
  have hlst : Below wg.heap.size wg wg.drew := (Below.refl _ _).drew
  
  
  go_wp2_with fail
  go_region_with (first | (go_at_call 6; refine (HTG.out _ hlst).mono ?_; rintro e V ⟨sa0, sl0, sc0, sa1, sl1, sc1, rfl, HR3, hB⟩; have e0 := cell_later hB d0; have e1 := cell_later hB d1) | (go_at_call 8; refine (HEX.out V sa0 sl0 sc0 sa1 sl1 sc1 hB HR3.out).mono ?_; rintro e V2 ⟨rfl, hB2⟩))
  all_goals
    have hbf : Below w.heap.size w V2 := HSG.out.trans ((hB.trans (hB2.mono hB.size)).mono HSG.out.size)
    clear hB hB2
    go_wp2_with fail
    go_ret
    exact ⟨rfl, hbf⟩

/-- The start that the program's own text lays meets the condition. -/
theorem door_met (os : Os) (args : Array Value) : laidMetH Tryd.prog Rows.fnExactCodeTextRow.laid ((World.doorLaid Tryd.prog 4000 os).forCall (fun _ _ => 0) ⟨#[], args, []⟩).memory :=
  laidMetH_of_parts3 (fuel := 8) (laidMet_of_run' 8 (by kernel_rfl) (by kernel_rfl)) (by kernel_rfl) (by kernel_rfl)

theorem gPow : Tryd.prog.globalNamed "internal/strconv.uint64pow10" = some 1 := by kernel_rfl
theorem tPow : (Tryd.prog.globals[(1 : Nat)]?).map (·.type) = some 127 := by kernel_rfl

/-- What the condition gives the walk. -/
theorem of_laid {W : World} (h : laidMetH Tryd.prog Rows.fnExactCodeTextRow.laid W) : TabsOk W := by
  rw [MakeChecks.laidMetH_plain _ _ _ (by kernel_rfl)] at h
  have h2 : laidMet Tryd.prog [("internal/strconv.uint64pow10", Lib.tabData .u64 Lib.pow10Tab), ("loop.example/g00236/impl.shapes", Rows.laid_loop_example_g00236_impl_shapes)] W := laidMet.tail (laidMet.tail h)
  exact ⟨sh_of_laid (laidMet.tail h2), Lib.tabIs_of_head gPow tPow Tryd.underlying127 Tryd.underlying107 (by kernel_rfl) (by kernel_rfl) h2⟩

set_option maxRecDepth 100000 in
theorem lifted (os : Os) (started : os.Started) (H : Type) (enc : TypeId × Value → H) :
    ReturnsInHanded {} Tryd.checked os 3 .any (fun w args => (Rows.fnExactCodeTextSpec.pre enc Tryd.prog Tryd.f3 [] false w args ∧ laidMetH Tryd.prog Rows.fnExactCodeTextRow.laid w) ∧ sizedMet enc Tryd.prog Tryd.f3 (OpenSpec.ofChange Rows.fnExactCodeTextSpec) false w args)
      (Rows.fnExactCodeTextSpec.post enc Tryd.prog Tryd.f3 false true false false) := by
  refine returnsInHanded_of_change_and (C := Tryd.checked) (X := fun w _ => laidMetH Tryd.prog Rows.fnExactCodeTextRow.laid w) (fun _ _ _ hh h => h.of_heap hh) own started (by kernel_rfl) Tryd.func3
    (ChangeSpec.witness_shaped (enc := enc) (C := Tryd.checked) (os := os) (X := fun w _ => laidMetH Tryd.prog Rows.fnExactCodeTextRow.laid w) false (World.doorLaid Tryd.prog 4000 os) #[.agg #[.slice none 0 0, .slice none 0 0]] 8 rfl (World.shaped_of_RefB (by kernel_rfl) (by kernel_rfl)) (by kernel_rfl) (by kernel_rfl) (by kernel_rfl) (door_met os _)) ?_
  intro W base args ds gs before hval0 hW _ _ hL _
  have hval : ∀ (j : Nat) t v, Tryd.f3.params[j]? = some t → args[j]? = some v → Value.okWide Tryd.prog W .any base t v := hval0
  have hW' := hW
  obtain ⟨p, q, hA0, hV, rfl, hfz, hnd⟩ := hW
  have hA : DataW.TrodAll enc Tryd.prog W 0 (fun _ => true) true Tryd.f3.params.toList args.toList ds p := hA0
  rw [Tryd.params3] at hA hval
  obtain ⟨v0, vs0, d0, ds0, p0, q0, hargs, rfl, rfl, h0, rr0⟩ := trodAll_cons hA
  obtain ⟨rfl, rfl, rfl⟩ := trodAll_nil rr0
  obtain rfl : args = #[v0] := by cases args; simp_all
  have hV0 : DataW.TrodVars enc Tryd.prog W (fun _ => true) ["loop.example/g00236/impl.shapes"] gs q := hV
  obtain ⟨_, _, _, _, dv, _, rfl, _⟩ := trodVars_one hV0
  have kk0 := h0
  have lt0 : ∀ x ∈ p0, x.block < W.heap.size := by obtain ⟨m, hm⟩ := kk0; exact DataW.trod_lt m _ _ _ hm
  obtain ⟨M0, R0⟩ := read_Code (hval 0 25 v0 rfl rfl) h0
  obtain ⟨d, hd⟩ : ∃ d, d = M0 := ⟨_, rfl⟩
  obtain ⟨vs0, x0, rfl, r0, f0⟩ := R0 d (by omega)
  clear hA0 hval0
  refine (walk d W (of_laid hL) vs0 x0 r0 f0).mono fun e W' ⟨he, bel⟩ => ?_
  subst he
  exact ⟨_, rfl, _, _, _, [], _, _, hW', trodAll_mk1 (shut_bool Tryd.underlying4 _), (trodAll_cons_mk (Below.trod laidOut (by kernel_rfl) (of_decide_eq_true (by kernel_rfl)) kk0 bel lt0) trodAll_mk0), Below.trodVars laidOut bel (by kernel_rfl) hV0, bel.frame _, fun h => by cases h⟩

theorem over : Rows.fnExactCodeTextRow.holds Tryd.pinned (OpenSpec.ofChange Rows.fnExactCodeTextSpec) :=
  OpenClaim.holds_of_wide 3 Tryd.f3 rfl rfl rfl rfl rfl rfl rfl ⟨rfl, rfl, rfl, rfl, rfl⟩ rfl rfl rfl rfl rfl (by kernel_rfl) Tryd.func3 (by kernel_rfl)
    (of_decide_eq_true (by kernel_rfl)) (by unfold Func.isWrapper; first | (rw [if_pos (by decide +kernel)]; kernel_rfl) | (rw [if_neg (by decide +kernel)]; exact ⟨rfl, rfl⟩))
    (fun os started H enc _ => lifted os started H enc)

theorem card_holds : Claim7.holds Tryd.pinned (.plain (OpenSpec.ofChange Rows.fnExactCodeTextSpec)) Rows.fnExactCodeTextCard :=
  Claim7.holds_tied_plain_at .later [] [.data, .data, .data, .data] true (true, "9453606eeb6c5e12479fd5e441dc2103e2a06e9779d55b6970ca8654b4932215") false
    over (fun _ h => by cases h) (by kernel_rfl) (fun _ h => by cases h) fnExactCodeText_row_tie rfl ⟨rfl, rfl⟩ (by kernel_rfl) rfl
    (fun f fn hf hfn => by
      obtain rfl : f = 3 := Option.some.inj ((show Tryd.prog.funcNamed Tryd.f3.name = some 3 by kernel_rfl).symm.trans hf) |>.symm
      obtain rfl : fn = Tryd.f3 := (Option.some.inj (Tryd.func3.symm.trans hfn)).symm
      exact ⟨by kernel_rfl, fun j t ht => by
        rw [Tryd.params3] at ht
        have hm : t ∈ [25] := by simpa using Array.mem_of_getElem? ht
        have hall : ([25].all fun u => !Tryd.prog.wantsStandIn u) = true := by kernel_rfl
        exact (show Tryd.prog.wantsStandIn t = false by simpa using List.all_eq_true.1 hall t hm)⟩)
    (by kernel_rfl)

end Go.Proofs.YtfjneifgjdjbiaaDoor.fnExactCodeText
namespace Go.Proofs.YtfjneifgjdjbiaaDoor
/-- THE STATEMENT. -/
theorem fnExactCodeText_said : Rows.FnExactCodeTextCardSaid := fnExactCodeText.card_holds
#print axioms fnExactCodeText_said
end Go.Proofs.YtfjneifgjdjbiaaDoor
