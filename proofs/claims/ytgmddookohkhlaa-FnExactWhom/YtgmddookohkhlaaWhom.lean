/- FnExactWhom: at every three numbers the program's Whom answers as the model's; its answer owns its memory, behind another call too: no condition. (The frame round the walk is the guide's own way.) -/
import Derived.Test.YtgmddookohkhlaaWh3
import Derived.WalkKit
import Derived.ProofKit
import Derived.OpenShut
import Derived.ShutString
import Derived.ChangeOld
import Derived.Below
namespace Go.Proofs.Ytgmddookohkhlaa.fnExactWhom
open Go.ChangeShapes Go.WideShapes Go.ChangeAt Go.RowKit
open Go.ChangeMaps (open_string shut_string)
set_option linter.unusedVariables false

theorem own : ownKnob Try.prog.godebug = none := by kernel_rfl
theorem laidOut : laidOutB Try.prog = true := by kernel_rfl

set_option maxRecDepth 100000 in
set_option maxHeartbeats 8000000 in
theorem walk (w : World) (a0 : Int) (w0 : (Lit.int .i64 a0).wf = true) (a1 : Int) (w1 : (Lit.int .i64 a1).wf = true) (a2 : Int) (w2 : (Lit.int .i64 a2).wf = true) :
    Calls Try.prog 6 #[.int .i64 a0, .int .i64 a1, .int .i64 a2] w fun e w' => e = .returned (.bool true) ∧ Below w.heap.size w w' := by
  have HI : Hid (I64 a1) := bounds_i64 w1
  have HWL : Hid (WfRow I64 (whomL a0 a1 a2) ∧ (whomL a0 a1 a2).length ≤ 100) := whom_wf a0 a1 a2
  obtain ⟨L, hL⟩ : ∃ L, whomL a0 a1 a2 = L := ⟨_, rfl⟩
  have HSP : Hid (∀ V : World, Calls Try.prog 21 #[.int .i64 a0, .int .i64 a1, .int .i64 a2] V fun e w' => IoRes L V e w') := fun V => by rw [← hL]; exact specWhom_any a0 a1 a2 V HI.out
  have HIM : Hid (∀ V : World, Calls Try.prog 22 #[.int .i64 a0, .int .i64 a1, .int .i64 a2] V fun e w' => IoRes L V e w') := fun V => by rw [← hL]; exact implWhom_any a0 a1 a2 V
  rw [hL] at HWL
  obtain ⟨n, hn⟩ : ∃ n, L.length = n := ⟨_, rfl⟩
  have HLN : Hid (L.length = n) := hn
  have hn1 : n ≤ 100 := by rw [← hn]; exact HWL.out.2
  clear hL hn HI
  go_enter Try.func6, Try.ntmps6
  go_wp2_with fail
  refine (HSP.out w).mono ?_
  rintro e wa ⟨aS, cS, fpS, rfl, HS, belA⟩
  rw [HLN.out] at HS ⊢
  have HBA : Hid (Below w.heap.size w wa) := belA
  have HRS : Hid (∀ V : World, Below wa.heap.size wa V → RowOf 1 InR V (.slice aS n cS) L ∧ Below w.heap.size w V) := fun V hV => ⟨(HS.out.1.rd InO.reads).later InR.lasts hV, HBA.out.trans (hV.mono HBA.out.size)⟩
  clear HS belA HSP
  go_wp2_with fail
  refine (HIM.out wa).mono ?_
  rintro e wf ⟨aG, cG, fpG, rfl, HG, belf⟩
  rw [HLN.out] at HG ⊢
  have HBF : Hid (Below wa.heap.size wa wf) := belf
  have HFG : Hid (fpG.Nodup ∧ ∀ g ∈ fpG, wa.heap.size ≤ g ∧ g < wf.heap.size) := HG.out.2
  have HGO : Hid (OwnRow 1 3 InO wf (.slice aG n cG) L fpG) := HG.out.1
  have hC := eqInts_any (.slice aG n cG) (.slice aS n cS) L wf (HGO.out.rd InO.reads) (HRS.out wf belf).1 HWL.out.1
  clear HG belf
  go_wp2_with fail
  refine hC.mono ?_
  clear hC
  rintro e wj ⟨rfl, belj⟩
  have HBJ : Hid (Below wf.heap.size wf wj) := belj
  have hM := markInts_any (.slice aG n cG) L fpG 1 wj (HGO.out.frame InO.lasts fun g hg => belj.block g (HFG.out.2 g hg).2) HFG.out.1 (fun g hg => Nat.lt_of_lt_of_le (HFG.out.2 g hg).2 belj.size) (by omega) (by rw [ck_ints, HLN.out]; omega) (by rw [HLN.out]; omega)
  rw [ck_ints, HLN.out] at hM
  obtain ⟨K3, hK3⟩ : ∃ K : Int, (1 + (n : Nat) : Int) = K := ⟨_, rfl⟩
  have HK3 : Hid ((1 + (n : Nat) : Int) = K3) := hK3
  rw [hK3] at hM
  have hK3p : ¬ K3 < 0 := by omega
  have hK3n : (K3 != K3) = false := by simp
  clear belj
  go_wp2_with fail
  refine hM.mono ?_
  clear hM
  rintro e wk ⟨rfl, om, hWr⟩
  have HM2 : Hid (∀ V : World, Below wk.heap.size wk V → Below wa.heap.size wa V ∧ RowOf 1 InR V (.slice aG n cG) (mkL mkI ckI 1 L)) := fun V hV => by
    have j0 := HBF.out.trans (HBJ.out.mono HBF.out.size)
    have j1 : Below wa.heap.size wa wk := j0.trans ⟨hWr.os, hWr.tape, hWr.output, hWr.size, fun g hg => hWr.block g (by have := j0.size; omega) fun h => by have := (HFG.out.2 g h).1; omega⟩
    exact ⟨j1.trans (hV.mono j1.size), (om.rd InO.reads).later InR.lasts hV⟩
  have HHD : Hid (∀ V : World, Below wk.heap.size wk V → Calls Try.prog 25 #[.slice aG n cG, .int .i64 1] V fun e w' => e = .returned (.int .i64 K3) ∧ Below V.heap.size V w') := fun V hV => by
    have := heldInts_any (.slice aG n cG) L 1 V (HM2.out V hV).2 (by omega) (by rw [ck_ints, HLN.out]; omega) (by rw [HLN.out]; omega)
    rw [ck_ints, HLN.out, HK3.out] at this
    exact this
  clear om hWr HBJ HBF HGO HFG
  go_wp2_with fail
  refine (HHD.out wk (Below.refl _ _)).mono ?_
  rintro e wl ⟨rfl, hbl⟩
  have HCL : Hid (Below wk.heap.size wk wl) := hbl
  clear hbl
  go_wp2_with fail
  refine (HIM.out wl).mono ?_
  rintro e wn ⟨aH, cH, fpH, rfl, HH, beln⟩
  rw [HLN.out] at HH ⊢
  have HCN : Hid (Below wk.heap.size wk wn) := HCL.out.trans (beln.mono HCL.out.size)
  have hC := eqInts_any (.slice aH n cH) (.slice aS n cS) L wn (HH.out.1.rd InO.reads) (HRS.out wn (HM2.out wn HCN.out).1).1 HWL.out.1
  clear beln HH HCL
  go_wp2_with fail
  refine hC.mono ?_
  clear hC
  rintro e wo ⟨rfl, belo⟩
  have HCO : Hid (Below wk.heap.size wk wo) := HCN.out.trans (belo.mono HCN.out.size)
  clear belo HCN
  go_wp2_with fail
  refine (HHD.out wo HCO.out).mono ?_
  rintro e wq ⟨rfl, belq⟩
  have hfin : Below w.heap.size w wq := (HRS.out wq (HM2.out wq (HCO.out.trans (belq.mono HCO.out.size))).1).2
  clear belq HCO
  go_wp2_with fail
  go_ret
  exact ⟨rfl, hfin⟩

set_option maxRecDepth 100000 in
theorem lifted (os : Os) (started : os.Started) (H : Type) (enc : TypeId × Value → H) :
    ReturnsInHanded {} Try.checked os 6 .any (Rows.fnExactWhomSpec.pre6 enc Try.prog Try.f6 Rows.fnExactWhomRow.domain false) (Rows.fnExactWhomSpec.post enc Try.prog Try.f6 false true false false) := by
  refine returnsInHanded_of_change (C := Try.checked) own started (by kernel_rfl) Try.func6
    (ChangeSpec.witness6 (enc := enc) (C := Try.checked) false ⟨#[], #[.int .i64 0, .int .i64 0, .int .i64 0], []⟩ 8 (by kernel_rfl) (by kernel_rfl) (by kernel_rfl) (by kernel_rfl)) ?_
  intro W base args ds gs before hval0 hW hcnd _
  have hval : ∀ (j : Nat) t v, Try.f6.params[j]? = some t → args[j]? = some v → Value.okWide Try.prog W .any base t v := hval0
  have hW' := hW
  obtain ⟨p, q, hA0, hV, rfl, hfz, hnd⟩ := hW
  have hA : DataW.TrodAll enc Try.prog W 0 (fun _ => true) true Try.f6.params.toList args.toList ds p := hA0
  rw [Try.params6] at hA hval
  obtain ⟨v0, vs0, d0, ds0, p0, q0, hargs, rfl, rfl, h0, rr0⟩ := trodAll_cons hA
  obtain ⟨v1, vs1, d1, ds1, p1, q1, rfl, rfl, rfl, h1, rr1⟩ := trodAll_cons rr0
  obtain ⟨v2, vs2, d2, ds2, p2, q2, rfl, rfl, rfl, h2, rr2⟩ := trodAll_cons rr1
  obtain ⟨rfl, rfl, rfl⟩ := trodAll_nil rr2
  obtain rfl : args = #[v0, v1, v2] := by cases args; simp_all
  obtain ⟨rfl, rfl⟩ := trodVars_none hV
  obtain ⟨a0, rfl, rfl, rfl, w0⟩ := open_int Try.underlying3 (hval 0 3 v0 rfl rfl) h0
  obtain ⟨a1, rfl, rfl, rfl, w1⟩ := open_int Try.underlying3 (hval 1 3 v1 rfl rfl) h1
  obtain ⟨a2, rfl, rfl, rfl, w2⟩ := open_int Try.underlying3 (hval 2 3 v2 rfl rfl) h2

  clear hA0 hval0
  refine (walk W a0 w0 a1 w1 a2 w2).mono fun e W' ⟨he, bel⟩ => ?_
  subst he
  exact ⟨_, rfl, _, _, _, [], _, [], hW', trodAll_mk1 (shut_bool Try.underlying4 _), (trodAll_cons_mk (shut_int Try.underlying3 w0) (trodAll_cons_mk (shut_int Try.underlying3 w1) (trodAll_cons_mk (shut_int Try.underlying3 w2) trodAll_mk0))), rfl, bel.frame _, fun h => by cases h⟩

theorem over : Rows.fnExactWhomRow.holds Try.pinned (OpenSpec.ofChange Rows.fnExactWhomSpec) :=
  OpenClaim.holds_of_wide 6 Try.f6 rfl rfl rfl rfl rfl rfl rfl ⟨rfl, rfl, rfl, rfl, rfl⟩ rfl rfl rfl rfl rfl (by kernel_rfl) Try.func6 (by kernel_rfl)
    (of_decide_eq_true (by kernel_rfl)) (by unfold Func.isWrapper; first | (rw [if_pos (by decide +kernel)]; kernel_rfl) | (rw [if_neg (by decide +kernel)]; exact ⟨rfl, rfl⟩))
    (fun os started H enc _ => lifted os started H enc)

end Go.Proofs.Ytgmddookohkhlaa.fnExactWhom
namespace Go.Proofs.Ytgmddookohkhlaa
/-- THE STATEMENT. -/
theorem fnExactWhom_said : Rows.FnExactWhomSaid := fnExactWhom.over
#print axioms fnExactWhom_said
end Go.Proofs.Ytgmddookohkhlaa
