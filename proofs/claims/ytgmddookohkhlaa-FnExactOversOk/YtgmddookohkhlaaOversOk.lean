/- FnExactOversOk: at every list of overseers (that can be read as data, within the law's own bound) the program's OversOk answers as the model's and leaves its argument as it was: no other condition. (The frame round the walk is the guide's own way.) -/
import Derived.Test.YtgmddookohkhlaaOo5M
import Derived.Test.YtgmddookohkhlaaTReadM
import Derived.WalkKit
import Derived.ProofKit
import Derived.OpenShut
import Derived.ShutString
import Derived.ChangeOld
import Derived.Below
namespace Go.Proofs.Ytgmddookohkhlaa.fnExactOversOk
open Go.ChangeShapes Go.WideShapes Go.ChangeAt Go.RowKit
open Go.ChangeMaps (open_string shut_string)
set_option linter.unusedVariables false

theorem own : ownKnob Try.prog.godebug = none := by kernel_rfl
theorem laidOut : laidOutB Try.prog = true := by kernel_rfl

set_option maxRecDepth 100000 in
set_option maxHeartbeats 8000000 in
theorem walk (d : Nat) (w : World) (u0 : Value) (m0 : List (DOver d)) (r0 : RowOf 7 (OverR d) w u0 m0) (f0 : WfRow (WfOver d) m0) :
    Calls Try.prog 4 #[u0] w fun e w' => e = .returned (.bool true) ∧ Below w.heap.size w w' := by
  obtain ⟨a, c, e0⟩ := r0.slice
  obtain ⟨len, hlen⟩ : ∃ l, m0.length = l := ⟨_, rfl⟩
  rw [hlen] at e0
  subst e0
  have HR : Hid (∀ V : World, Below w.heap.size w V → RowOf 7 (OverR d) V (.slice a len c) m0) := fun V hV => r0.later (OverR.lasts d) hV
  have HF : Hid (WfRow (WfOver d) m0) := f0
  have hC := szOverS_any d _ m0 1048576 w r0 f0 (by omega) (by omega)
  have hmx : maxLen ≤ 9223372036854775807 := by decide
  clear r0 f0 hlen
  go_enter Try.func4, Try.ntmps4
  go_wp2_with fail
  refine hC.mono ?_
  clear hC
  rintro e wa ⟨rfl, belA⟩
  by_cases hz : szRow (szOverD d) m0 ≤ 1048576
  case neg =>
    have hl : lft 1048576 (szRow (szOverD d) m0) = -1 := by unfold lft; rw [if_neg (by omega)]
    rw [hl]
    clear hz hl
    go_wp2_with fail
    go_ret
    exact ⟨rfl, belA⟩
  obtain ⟨x, hx, hxp⟩ : ∃ x : Int, lft 1048576 (szRow (szOverD d) m0) = x ∧ 0 ≤ x := ⟨_, rfl, by unfold lft; rw [if_pos (by omega)]; omega⟩
  rw [hx]
  have HZ : Hid (szRow (szOverD d) m0 ≤ 1048576) := hz
  clear hz hx
  have HTO : Hid (∀ V : World, Below w.heap.size w V → _) := fun V hV => toOverS_any d _ m0 V (HR.out V hV) HF.out HZ.out
  go_wp2_with fail
  refine (HTO.out wa belA).mono ?_
  rintro e wb ⟨qa, ql, qc, fp1, rfl, own1, fr1, belb⟩
  have belB : Below w.heap.size w wb := belA.trans (belb.mono belA.size)
  have hC := specOversOk_any d _ m0  wb (own1.rd (OverO.reads d)) HF.out HZ.out  
  clear own1 fr1 belb belA
  go_wp2_with fail
  refine hC.mono ?_
  clear hC
  rintro e wcc ⟨g1, rfl, hg1, belc⟩
  have HG1 : Hid (_ ↔ _) := hg1
  clear hg1
  have belC : Below w.heap.size w wcc := belB.trans (belc.mono belB.size)
  clear belc belB
  go_wp2_with fail
  refine (HTO.out wcc belC).mono ?_
  rintro e wd ⟨ra, rl, rc, fp2, rfl, own2, fr2, beld⟩
  have belE : Below w.heap.size w wd := belC.trans (beld.mono belC.size)
  have HOE : Hid (∀ V : World, Below wd.heap.size wd V → OwnRow 7 30 (OverO d) V (.slice ra rl rc) m0 fp2) := fun V hV => own2.frame (OverO.lasts d) fun g hg => hV.block g (fr2.2 g hg).2
  have hC := implOversOk_any d _ m0  wd (own2.rd (OverO.reads d)) HF.out HZ.out  
  
  clear own2 fr2 beld belC
  go_wp2_with fail
  refine hC.mono ?_
  clear hC
  rintro e wg ⟨g2, rfl, hg2, belg⟩
  have hgg : g1 = g2 := by
    have h1 := HG1.out
    cases g1 <;> cases g2
    · rfl
    · exact h1.2 (hg2.1 rfl)
    · exact (hg2.2 (h1.1 rfl)).symm
    · rfl
  subst hgg
  clear hg2
  have HBG : Hid (Below wd.heap.size wd wg) := belg
  have HSG : Hid (Below w.heap.size w wg) := belE.trans (belg.mono belE.size)
  clear belg belE HG1
  have hbb : (g1 == g1) = true := by cases g1 <;> rfl
  have hbn : (g1 != g1) = false := by simp
  go_wp2_with fail
  refine (HTO.out wg HSG.out).mono ?_
  rintro e wh ⟨sa, sl, sc, fp3, rfl, own3, fr3, belh⟩
  have hQ := eqOverS_any d _ _ m0 wh ((HOE.out wh (HBG.out.trans (belh.mono HBG.out.size))).rd (OverO.reads d)) (own3.rd (OverO.reads d)) HF.out
  have HSH : Hid (Below w.heap.size w wh) := HSG.out.trans (belh.mono HSG.out.size)
  clear own3 fr3 belh
  go_wp2_with fail
  refine hQ.mono ?_
  clear hQ
  rintro e wi ⟨rfl, beli⟩
  have HSI : Hid (Below w.heap.size w wi) := HSH.out.trans (beli.mono HSH.out.size)
  clear beli
  go_wp2_with fail
  go_ret
  exact ⟨rfl, HSI.out⟩

set_option maxRecDepth 100000 in
theorem lifted (os : Os) (started : os.Started) (H : Type) (enc : TypeId × Value → H) :
    ReturnsInHanded {} Try.checked os 4 .any (Rows.fnExactOversOkSpec.pre6 enc Try.prog Try.f4 Rows.fnExactOversOkRow.domain false) (Rows.fnExactOversOkSpec.post enc Try.prog Try.f4 false true false false) := by
  refine returnsInHanded_of_change (C := Try.checked) own started (by kernel_rfl) Try.func4
    (ChangeSpec.witness6 (enc := enc) (C := Try.checked) false ⟨#[], #[.slice none 0 0], []⟩ 8 (by kernel_rfl) (by kernel_rfl) (by kernel_rfl) (by kernel_rfl)) ?_
  intro W base args ds gs before hval0 hW hcnd _
  have hval : ∀ (j : Nat) t v, Try.f4.params[j]? = some t → args[j]? = some v → Value.okWide Try.prog W .any base t v := hval0
  have hW' := hW
  obtain ⟨p, q, hA0, hV, rfl, hfz, hnd⟩ := hW
  have hA : DataW.TrodAll enc Try.prog W 0 (fun _ => true) true Try.f4.params.toList args.toList ds p := hA0
  rw [Try.params4] at hA hval
  obtain ⟨v0, vs0, d0, ds0, p0, q0, hargs, rfl, rfl, h0, rr0⟩ := trodAll_cons hA
  obtain ⟨rfl, rfl, rfl⟩ := trodAll_nil rr0
  obtain rfl : args = #[v0] := by cases args; simp_all
  obtain ⟨rfl, rfl⟩ := trodVars_none hV
  obtain ⟨a0, len0, cap0, rfl⟩ := okWide_slice Try.underlying34 (hval 0 34 v0 rfl rfl)
  have kk0 := h0
  have lt0 : ∀ x ∈ p0, x.block < W.heap.size := by obtain ⟨m, hm⟩ := kk0; exact DataW.trod_lt m _ _ _ hm
  obtain ⟨M0, hf0⟩ := h0
  obtain ⟨d, hd⟩ : ∃ d, d = M0 := ⟨_, rfl⟩
  obtain ⟨m0, r0, f0⟩ := read_Overs (d := d) (by omega) hf0
  clear hA0 hval0
  refine (walk d W _ m0 r0 f0).mono fun e W' ⟨he, bel⟩ => ?_
  subst he
  exact ⟨_, rfl, _, _, _, [], _, [], hW', trodAll_mk1 (shut_bool Try.underlying4 _), (trodAll_cons_mk (Below.trod laidOut (by kernel_rfl) (of_decide_eq_true (by kernel_rfl)) kk0 bel lt0) trodAll_mk0), rfl, bel.frame _, fun h => by cases h⟩

theorem over : Rows.fnExactOversOkRow.holds Try.pinned (OpenSpec.ofChange Rows.fnExactOversOkSpec) :=
  OpenClaim.holds_of_wide 4 Try.f4 rfl rfl rfl rfl rfl rfl rfl ⟨rfl, rfl, rfl, rfl, rfl⟩ rfl rfl rfl rfl rfl (by kernel_rfl) Try.func4 (by kernel_rfl)
    (of_decide_eq_true (by kernel_rfl)) (by unfold Func.isWrapper; first | (rw [if_pos (by decide +kernel)]; kernel_rfl) | (rw [if_neg (by decide +kernel)]; exact ⟨rfl, rfl⟩))
    (fun os started H enc _ => lifted os started H enc)

end Go.Proofs.Ytgmddookohkhlaa.fnExactOversOk
namespace Go.Proofs.Ytgmddookohkhlaa
/-- THE STATEMENT. -/
theorem fnExactOversOk_said : Rows.FnExactOversOkSaid := fnExactOversOk.over
#print axioms fnExactOversOk_said
end Go.Proofs.Ytgmddookohkhlaa
