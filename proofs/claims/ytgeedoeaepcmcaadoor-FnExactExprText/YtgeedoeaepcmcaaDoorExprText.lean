/- The text of an expression is what the model says; it writes into no argument. (The frame round the walk is the guide's own way.) -/
import Derived.Test.YtgeedoeaepcmcaaDoorTx5M
import Derived.Test.YtgeedoeaepcmcaaDoorXk4M
import Derived.Test.YtgeedoeaepcmcaaDoorTie
import Derived.Test.YtgeedoeaepcmcaaDoorCards
import Derived.WalkKit
import Derived.ProofKit
import Derived.LaidMore
import Derived.OpenShut
import Derived.ShutString
import Derived.ChangeOld
import Derived.Below
import Derived.Stop.Joined
import Derived.Stop.LaidErr
import Derived.SevenTiedAt
namespace Go.Proofs.YtgeedoeaepcmcaaDoor.fnExactExprText
open Go.ChangeShapes Go.WideShapes Go.ChangeAt Go.RowKit
open Go.ChangeMaps (open_string shut_string)
set_option linter.unusedVariables false

theorem own : ownKnob Tryd.prog.godebug = none := by kernel_rfl
theorem laidOut : laidOutB Tryd.prog = true := by kernel_rfl

set_option maxHeartbeats 1000000 in
theorem walk (d : Nat) (w : World) (htab : TabOk w) (vs0 : List Value) (x0 : Ex d) (r0 : ExR d w vs0 x0) (f0 : WfX d x0) :
    Calls Tryd.prog 3 #[.agg vs0.toArray] w fun e w' => e = .returned (.bool true) ∧ Below w.heap.size w w' := by
  have HTB : Hid (TabOk w) := htab
  clear htab
  obtain ⟨k, n, s, a3, l3, c3, a4, l4, c4, rfl⟩ := ExR.shape d w vs0 x0 r0
  have HR : Hid (∀ V : World, Below w.heap.size w V → ExR d V [.int .i64 k, .int .i64 n, .string s, .slice a3 l3 c3, .slice a4 l4 c4] x0) := fun V hV => ExR.lasts d _ _ _ _ r0 hV
  have HF : Hid (WfX d x0) := f0
  obtain ⟨W0, hW0⟩ : ∃ W, W = w.alloc (.cells #[.int .i64 k, .int .i64 n, .string s, .slice a3 l3 c3, .slice a4 l4 c4] 25) := ⟨_, rfl⟩
  have bel0 : Below w.heap.size w W0 := by rw [hW0]; exact (Below.refl _ _).alloc (Nat.le_refl _) _
  have box0 : W0.heap[w.heap.size]? = some (.cells #[.int .i64 k, .int .i64 n, .string s, .slice a3 l3 c3, .slice a4 l4 c4] 25 (0, 0)) := by rw [hW0]; exact heap_alloc_new w _
  have hC := szExpr_any d _ x0 1048576 W0 (HR.out W0 bel0) HF.out (by omega) (by omega)
  rw [hW0] at hC
  have HW0 : Hid (W0 = _) := hW0
  clear r0 f0 hW0
  go_enter Tryd.func3, Tryd.ntmps3
  go_wp2_with fail
  refine hC.mono ?_
  clear hC
  rintro e wa ⟨rfl, bela⟩
  rw [← HW0.out] at bela
  have boxa := (bela.block _ (lt_row box0)).trans box0
  have belA : Below w.heap.size w wa := bel0.trans (bela.mono bel0.size)
  clear bel0 bela box0 HW0
  by_cases hz : szX d x0 ≤ 1048576
  case neg =>
    have hl : lft 1048576 (szX d x0) = -1 := by unfold lft; rw [if_neg (by omega)]
    rw [hl]
    clear hz hl boxa
    go_wp2_with fail
    go_ret
    exact ⟨rfl, belA⟩
  have hl : ∃ x : Int, lft 1048576 (szX d x0) = x ∧ 0 ≤ x := ⟨_, rfl, by unfold lft; rw [if_pos (by omega)]; omega⟩
  obtain ⟨x, hx, hxp⟩ := hl
  rw [hx]
  have HZ : Hid (szX d x0 ≤ 1048576) := hz
  clear hz hx
  have HTO : Hid (∀ X : World, Below w.heap.size w X → _) := fun X hX => toExpr_any d _ x0 X (HR.out X hX) HF.out HZ.out
  have HSH : Hid (∀ (X : World) (vs : List Value) (fp : List Nat), ExO d X vs x0 fp → ShExpr vs) := fun X vs fp h => ExO.shape d X vs x0 fp h
  obtain ⟨b0, b1, b2, b3, b4⟩ := five_at boxa
  go_wp2_with fail
  refine (HTO.out wa belA).mono ?_
  rintro e wb ⟨vs1, fp1, rfl, own1, fr1, belb⟩
  obtain ⟨p0, p1, p2, p3, pl3, pc3, p4, pl4, pc4, rfl⟩ := HSH.out _ _ _ own1
  clear b0 b1 b2 b3 b4
  have boxb := (belb.block _ (lt_row boxa)).trans boxa
  have belB : Below w.heap.size w wb := belA.trans (belb.mono belA.size)
  have hC := specExprText_any d _ x0 wb (ExO.readc d _ _ _ _ own1) HZ.out
  clear own1 fr1 belb boxa belA
  go_wp2_with fail
  refine hC.mono ?_
  clear hC
  rintro e wcc ⟨g1, rfl, HG1, belc⟩
  have boxc := (belc.block _ (lt_row boxb)).trans boxb
  have belC : Below w.heap.size w wcc := belB.trans (belc.mono belB.size)
  clear belc boxb belB
  obtain ⟨b0, b1, b2, b3, b4⟩ := five_at boxc
  go_wp2_with fail
  refine (HTO.out wcc belC).mono ?_
  rintro e wd ⟨vs2, fp2, rfl, own2, fr2, beld⟩
  obtain ⟨i0, i1, i2, i3, il3, ic3, i4, il4, ic4, rfl⟩ := HSH.out _ _ _ own2
  clear b0 b1 b2 b3 b4
  obtain ⟨we, hwe⟩ : ∃ we, we = wd.alloc (.cells #[.int .i64 i0, .int .i64 i1, .string i2, .slice i3 il3 ic3, .slice i4 il4 ic4] 31) := ⟨_, rfl⟩
  have bele : Below wd.heap.size wd we := by rw [hwe]; exact (Below.refl _ _).alloc (Nat.le_refl _) _
  have hxe : we.heap[wd.heap.size]? = some (.cells #[.int .i64 i0, .int .i64 i1, .string i2, .slice i3 il3 ic3, .slice i4 il4 ic4] 31 (0, 0)) := by rw [hwe]; exact heap_alloc_new wd _
  have belce : Below wcc.heap.size wcc we := beld.trans (bele.mono beld.size)
  have boxe := (belce.block _ (lt_row boxc)).trans boxc
  have belE : Below w.heap.size w we := belC.trans (belce.mono belC.size)
  have HOE : Hid (∀ V : World, Below we.heap.size we V → ExO d V [.int .i64 i0, .int .i64 i1, .string i2, .slice i3 il3 ic3, .slice i4 il4 ic4] x0 fp2) := fun V hV => ExO.lasts d _ _ _ _ _ own2 fun g hg => (hV.block g (Nat.lt_of_lt_of_le (fr2.2 g hg).2 bele.size)).trans (bele.block g (fr2.2 g hg).2)
  have hC := exprText_any d _ x0 fp2 we (HOE.out we (Below.refl _ _)) fr2.1 (fun g hg => Nat.lt_of_lt_of_le (fr2.2 g hg).2 bele.size) HZ.out (HTB.out.later belE)
  rw [hwe] at hC
  have HWE : Hid (we = _) := hwe
  clear hwe own2 fr2 beld bele belce boxc belC
  go_wp2_with fail
  refine hC.mono ?_
  clear hC
  rintro e wg ⟨g2, rfl, HG2, belg⟩
  rw [← HWE.out] at belg
  have hgg : g1 = g2 := HG1.out.same HG2.out
  subst hgg
  have HXG : Hid (wg.heap[wd.heap.size]? = some (.cells #[.int .i64 i0, .int .i64 i1, .string i2, .slice i3 il3 ic3, .slice i4 il4 ic4] 31 (0, 0))) := (belg.block _ (lt_row hxe)).trans hxe
  have HBG : Hid (Below we.heap.size we wg) := belg
  have HSG : Hid (wg.heap[w.heap.size]? = some (.cells #[.int .i64 k, .int .i64 n, .string s, .slice a3 l3 c3, .slice a4 l4 c4] 25 (0, 0)) ∧ Below w.heap.size w wg) := ⟨(belg.block _ (lt_row boxe)).trans boxe, belE.trans (belg.mono belE.size)⟩
  clear belg hxe boxe belE HG1 HG2
  obtain ⟨b0, b1, b2, b3, b4⟩ := five_at HSG.out.1
  obtain ⟨d0, d1, d2, d3, d4⟩ := five_at HXG.out
  have HTG : Hid (∀ X : World, Below wg.heap.size wg X → Calls Tryd.prog 6 #[.agg #[.int .i64 k, .int .i64 n, .string s, .slice a3 l3 c3, .slice a4 l4 c4]] X fun e V => ∃ j0 j1 j2 j3 jl3 jc3 j4 jl4 jc4, e = .returned (.agg #[.int .i64 j0, .int .i64 j1, .string j2, .slice j3 jl3 jc3, .slice j4 jl4 jc4]) ∧ Hid (ExR d V [.int .i64 j0, .int .i64 j1, .string j2, .slice j3 jl3 jc3, .slice j4 jl4 jc4] x0) ∧ Below wg.heap.size wg V) := fun X hX => by
    refine (HTO.out X (HSG.out.2.trans (hX.mono HSG.out.2.size))).mono ?_
    rintro e V ⟨vs3, fp3, rfl, own3, _, hB⟩
    obtain ⟨j0, j1, j2, j3, jl3, jc3, j4, jl4, jc4, rfl⟩ := HSH.out _ _ _ own3
    exact ⟨j0, j1, j2, j3, jl3, jc3, j4, jl4, jc4, rfl, ExO.reads d _ _ _ _ own3, hX.trans (hB.mono hX.size)⟩
  have HEX : Hid (∀ (V : World) (j0 j1 : Int) (j2 : ByteArray) (j3 : Option Addr) (jl3 jc3 : Nat) (j4 : Option Addr) (jl4 jc4 : Nat), Below wg.heap.size wg V → ExR d V [.int .i64 j0, .int .i64 j1, .string j2, .slice j3 jl3 jc3, .slice j4 jl4 jc4] x0 → _) := fun V j0 j1 j2 j3 jl3 jc3 j4 jl4 jc4 hV h => eqExpr_any d _ _ x0 V (ExO.reads d _ _ _ _ (HOE.out V (HBG.out.trans (hV.mono HBG.out.size)))) h HF.out
  have hlst : Below wg.heap.size wg wg.drew := (Below.refl _ _).drew
  have hne : (g1.toList == g1.toList) = true := by simp
  go_wp2_with fail
  go_region_with (first | (go_at_call 6; refine (HTG.out _ hlst).mono ?_; rintro e V ⟨j0, j1, j2, j3, jl3, jc3, j4, jl4, jc4, rfl, HR3, hB⟩; have e0 := cell_later hB d0; have e1 := cell_later hB d1; have e2 := cell_later hB d2; have e3 := cell_later hB d3; have e4 := cell_later hB d4) | (go_at_call 8; refine (HEX.out V j0 j1 j2 j3 jl3 jc3 j4 jl4 jc4 hB HR3.out).mono ?_; rintro e V2 ⟨rfl, hB2⟩))
  all_goals
    have hbf : Below w.heap.size w V2 := HSG.out.2.trans ((hB.trans (hB2.mono hB.size)).mono HSG.out.2.size)
    clear hB hB2
    go_wp2_with fail
    go_ret
    exact ⟨rfl, hbf⟩

/-- The start that the program's own text lays meets the condition. -/
theorem door_met (os : Os) (args : Array Value) : laidMetH Tryd.prog Rows.fnExactExprTextRow.laid ((World.doorLaid Tryd.prog 4000 os).forCall (fun _ _ => 0) ⟨#[], args, []⟩).memory :=
  laidMetH_of_parts3 (fuel := 8) (laidMet_of_run' 8 (by kernel_rfl) (by kernel_rfl)) (by kernel_rfl) (by kernel_rfl)

theorem gPow : Tryd.prog.globalNamed "internal/strconv.uint64pow10" = some 0 := by kernel_rfl
theorem tPow : (Tryd.prog.globals[0]?).map (·.type) = some 106 := by kernel_rfl

/-- What the condition gives the walk. -/
theorem of_laid {W : World} (h : laidMetH Tryd.prog Rows.fnExactExprTextRow.laid W) : TabOk W := by
  rw [MakeChecks.laidMetH_plain _ _ _ (by kernel_rfl)] at h
  have h2 : laidMet Tryd.prog [("internal/strconv.uint64pow10", Lib.tabData .u64 Lib.pow10Tab)] W := laidMet.tail (laidMet.tail h)
  exact Lib.tabIs_of_head gPow tPow Tryd.underlying106 Tryd.underlying83 (by kernel_rfl) (by kernel_rfl) h2

set_option maxRecDepth 100000 in
theorem lifted (os : Os) (started : os.Started) (H : Type) (enc : TypeId × Value → H) :
    ReturnsInHanded {} Tryd.checked os 3 .any (fun w args => (Rows.fnExactExprTextSpec.pre enc Tryd.prog Tryd.f3 [] false w args ∧ laidMetH Tryd.prog Rows.fnExactExprTextRow.laid w) ∧ sizedMet enc Tryd.prog Tryd.f3 (OpenSpec.ofChange Rows.fnExactExprTextSpec) false w args)
      (Rows.fnExactExprTextSpec.post enc Tryd.prog Tryd.f3 false true false false) := by
  refine returnsInHanded_of_change_and (C := Tryd.checked) (X := fun w _ => laidMetH Tryd.prog Rows.fnExactExprTextRow.laid w) (fun _ _ _ hh h => h.of_heap hh) own started (by kernel_rfl) Tryd.func3
    (ChangeSpec.witness_shaped (enc := enc) (C := Tryd.checked) (os := os) (X := fun w _ => laidMetH Tryd.prog Rows.fnExactExprTextRow.laid w) false (World.doorLaid Tryd.prog 4000 os) #[.agg #[.int .i64 0, .int .i64 0, .string ⟨#[]⟩, .slice none 0 0, .slice none 0 0]] 8 rfl (World.shaped_of_RefB (by kernel_rfl) (by kernel_rfl)) (by kernel_rfl) (by kernel_rfl) (by kernel_rfl) (door_met os _)) ?_
  intro W base args ds gs before hval0 hW _ _ hL _
  have hval : ∀ (j : Nat) t v, Tryd.f3.params[j]? = some t → args[j]? = some v → Value.okWide Tryd.prog W .any base t v := hval0
  have hW' := hW
  obtain ⟨p, q, hA0, hV, rfl, hfz, hnd⟩ := hW
  have hA : DataW.TrodAll enc Tryd.prog W 0 (fun _ => true) true Tryd.f3.params.toList args.toList ds p := hA0
  rw [Tryd.params3] at hA hval
  obtain ⟨v0, vs0, d0, ds0, p0, q0, hargs, rfl, rfl, h0, rr0⟩ := trodAll_cons hA
  obtain ⟨rfl, rfl, rfl⟩ := trodAll_nil rr0
  obtain rfl : args = #[v0] := by cases args; simp_all
  obtain ⟨rfl, rfl⟩ := trodVars_none hV
  have kk0 := h0
  have lt0 : ∀ x ∈ p0, x.block < W.heap.size := by obtain ⟨m, hm⟩ := kk0; exact DataW.trod_lt m _ _ _ hm
  obtain ⟨M0, R0⟩ := read_expr (hval 0 25 v0 rfl rfl) h0
  obtain ⟨d, hd⟩ : ∃ d, d = M0 := ⟨_, rfl⟩
  obtain ⟨vs0, x0, rfl, r0, f0⟩ := R0 d (by omega)
  clear hA0 hval0
  refine (walk d W (of_laid hL) vs0 x0 r0 f0).mono fun e W' ⟨he, bel⟩ => ?_
  subst he
  exact ⟨_, rfl, _, _, _, [], _, [], hW', trodAll_mk1 (shut_bool Tryd.underlying4 _), (trodAll_cons_mk (Below.trod laidOut (by kernel_rfl) (of_decide_eq_true (by kernel_rfl)) kk0 bel lt0) trodAll_mk0), rfl, bel.frame _, fun h => by cases h⟩

theorem over : Rows.fnExactExprTextRow.holds Tryd.pinned (OpenSpec.ofChange Rows.fnExactExprTextSpec) :=
  OpenClaim.holds_of_wide 3 Tryd.f3 rfl rfl rfl rfl rfl rfl rfl ⟨rfl, rfl, rfl, rfl, rfl⟩ rfl rfl rfl rfl rfl (by kernel_rfl) Tryd.func3 (by kernel_rfl)
    (of_decide_eq_true (by kernel_rfl)) (by unfold Func.isWrapper; first | (rw [if_pos (by decide +kernel)]; kernel_rfl) | (rw [if_neg (by decide +kernel)]; exact ⟨rfl, rfl⟩))
    (fun os started H enc _ => lifted os started H enc)

theorem card_holds : Claim7.holds Tryd.pinned (.plain (OpenSpec.ofChange Rows.fnExactExprTextSpec)) Rows.fnExactExprTextCard :=
  Claim7.holds_tied_plain_at .later [] [.data, .data, .data] true (true, "be74ed7fdab366bc5d6d2b5228a8e74334483c110ae2e1c8b5651255119071ba") false
    over (fun _ h => by cases h) (by kernel_rfl) (fun _ h => by cases h) fnExactExprText_row_tie rfl ⟨rfl, rfl⟩ (by kernel_rfl) rfl
    (fun f fn hf hfn => by
      obtain rfl : f = 3 := Option.some.inj ((show Tryd.prog.funcNamed Tryd.f3.name = some 3 by kernel_rfl).symm.trans hf) |>.symm
      obtain rfl : fn = Tryd.f3 := (Option.some.inj (Tryd.func3.symm.trans hfn)).symm
      exact ⟨by kernel_rfl, fun j t ht => by
        rw [Tryd.params3] at ht
        have hm : t ∈ [25] := by simpa using Array.mem_of_getElem? ht
        have hall : ([25].all fun u => !Tryd.prog.wantsStandIn u) = true := by kernel_rfl
        exact (show Tryd.prog.wantsStandIn t = false by simpa using List.all_eq_true.1 hall t hm)⟩)
    (by kernel_rfl)

end Go.Proofs.YtgeedoeaepcmcaaDoor.fnExactExprText
namespace Go.Proofs.YtgeedoeaepcmcaaDoor
/-- THE STATEMENT. -/
theorem fnExactExprText_said : Rows.FnExactExprTextCardSaid := fnExactExprText.card_holds
#print axioms fnExactExprText_said
end Go.Proofs.YtgeedoeaepcmcaaDoor
