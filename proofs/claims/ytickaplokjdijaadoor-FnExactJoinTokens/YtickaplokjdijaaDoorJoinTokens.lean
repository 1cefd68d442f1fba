/- The program and the model join every row of tokens to the same text. No condition but that the library's table lies as its own text lays it (the card ties it). (The frame round the walk is the guide's own way.) -/
import Derived.Test.YtickaplokjdijaaDoorJT2
import Derived.Test.YtickaplokjdijaaDoorTie
import Derived.Test.YtickaplokjdijaaDoorCards
import Derived.WalkKit
import Derived.ProofKit
import Derived.LaidMore
import Derived.OpenShut
import Derived.ShutString
import Derived.ChangeOld
import Derived.Below
import Derived.Stop.Joined
import Derived.Stop.LaidErr
import Derived.SevenTiedAt
namespace Go.Proofs.YtickaplokjdijaaDoor.fnExactJoinTokens
open Go.ChangeShapes Go.WideShapes Go.ChangeAt Go.RowKit
open Go.ChangeMaps (open_string shut_string)
set_option linter.unusedVariables false

theorem own : ownKnob Tryd.prog.godebug = none := by kernel_rfl
theorem laidOut : laidOutB Tryd.prog = true := by kernel_rfl

set_option maxHeartbeats 1000000 in
theorem walk (w : World) (htab : TabOk w) (a0 : Option Addr) (c0 : Nat) (t0 : List Tk) (r0 : RdO w a0 t0) (f0 : WfK t0) :
    Calls Tryd.prog 7 #[.slice a0 t0.length c0] w fun e w' => e = .returned (.bool true) ∧ Below w.heap.size w w' := by
  have HTB : Hid (TabOk w) := htab
  have HR : Hid (RdO w a0 t0) := r0
  have HF : Hid (WfK t0) := f0
  have hS := szTokenS_any a0 c0 t0 w r0 f0
  obtain ⟨len, hlen⟩ : ∃ len, t0.length = len := ⟨_, rfl⟩
  have HL : Hid (t0.length = len) := hlen
  clear htab r0 f0
  rw [hlen] at hS ⊢
  clear hlen
  go_enter Tryd.func7, Tryd.ntmps7
  go_wp2_with fail
  refine hS.mono ?_
  clear hS
  rintro e wa ⟨rfl, bela⟩
  by_cases hz : len + sP t0 len ≤ 1048576
  case neg =>
    have hl : lft 1048576 (len + sP t0 len) = -1 := by unfold lft; rw [if_neg (by omega)]
    rw [hl]
    clear hz hl
    go_wp2_with fail
    go_ret
    exact ⟨rfl, bela⟩
  have hl : ∃ x : Int, lft 1048576 (len + sP t0 len) = x ∧ 0 ≤ x := ⟨_, rfl, by unfold lft; rw [if_pos (by omega)]; omega⟩
  obtain ⟨x, hx, hx0⟩ := hl
  rw [hx]
  have HZ : Hid (t0.length + sP t0 t0.length ≤ 1048576) := by rw [HL.out]; exact hz
  have hlb : len ≤ 1048576 := by omega
  have HTO : Hid (∀ X, Below w.heap.size w X → Calls Tryd.prog 27 #[.slice a0 len c0] X fun e w' => e = .returned (.slice (some ⟨X.heap.size, 0, none⟩) len len) ∧ RdO w' (some ⟨X.heap.size, 0, none⟩) t0 ∧ Below X.heap.size X w') := fun X hX => by
    have := toTokenS_any a0 c0 t0 X (HR.out.later hX) (by rw [HL.out]; exact hlb)
    rw [HL.out] at this
    exact this
  clear hz hx
  have hT := HTO.out wa bela
  go_wp2_with fail
  refine hT.mono ?_
  clear hT
  rintro e wb ⟨rfl, rdb, belb⟩
  have belB : Below w.heap.size w wb := bela.trans (belb.mono bela.size)
  have hJ := specJoin_any (some ⟨wa.heap.size, 0, none⟩) len t0 wb rdb HF.out HZ.out
  rw [HL.out] at hJ
  clear rdb belb bela
  go_wp2_with fail
  refine hJ.mono ?_
  clear hJ
  rintro e wc ⟨y, rfl, HJ1, belc⟩
  have belC : Below w.heap.size w wc := belB.trans (belc.mono belB.size)
  have hT := HTO.out wc belC
  clear belB belc
  go_wp2_with fail
  refine hT.mono ?_
  clear hT
  rintro e wd ⟨rfl, rdd, beld⟩
  have belD : Below w.heap.size w wd := belC.trans (beld.mono belC.size)
  have hJ := join_any (some ⟨wc.heap.size, 0, none⟩) len t0 wd rdd HF.out HZ.out (HTB.out.later belD)
  rw [HL.out] at hJ
  have HRD : Hid (RdO wd (some ⟨wc.heap.size, 0, none⟩) t0) := rdd
  clear rdd beld
  go_wp2_with fail
  refine hJ.mono ?_
  clear hJ
  rintro e we ⟨y2, rfl, HJ2, bele⟩
  obtain rfl := HJ1.out.same HJ2.out
  have HRE : Hid (RdO we (some ⟨wc.heap.size, 0, none⟩) t0) := HRD.out.later bele
  have belE : Below w.heap.size w we := belD.trans (bele.mono belD.size)
  have hne : (y.toList == y.toList) = true := by simp
  have hT := HTO.out we belE
  clear HJ1 HJ2 HRD bele belD belC
  go_wp2_with fail
  refine hT.mono ?_
  clear hT
  rintro e wf ⟨rfl, rdf, belf⟩
  have belF : Below w.heap.size w wf := belE.trans (belf.mono belE.size)
  have hE := eqToks_any (some ⟨wc.heap.size, 0, none⟩) (some ⟨we.heap.size, 0, none⟩) len len t0 wf (HRE.out.later belf) rdf (by rw [HL.out]; exact hlb)
  rw [HL.out] at hE
  clear rdf belf HRE belE
  go_wp2_with fail
  refine hE.mono ?_
  clear hE
  rintro e wg ⟨rfl, belg⟩
  have belG : Below w.heap.size w wg := belF.trans (belg.mono belF.size)
  clear belF belg
  go_wp2_with fail
  go_ret
  exact ⟨rfl, belG⟩

/-- The start that the program's own text lays meets the condition. -/
theorem door_met (os : Os) (args : Array Value) : laidMetH Tryd.prog Rows.fnExactJoinTokensRow.laid ((World.doorLaid Tryd.prog 4000 os).forCall (fun _ _ => 0) ⟨#[], args, []⟩).memory :=
  laidMetH_of_parts3 (fuel := 8) (laidMet_of_run' 8 (by kernel_rfl) (by kernel_rfl)) (by kernel_rfl) (by kernel_rfl)

theorem gPow : Tryd.prog.globalNamed "internal/strconv.uint64pow10" = some 1 := by kernel_rfl
theorem tPow : (Tryd.prog.globals[1]?).map (·.type) = some 123 := by kernel_rfl

/-- What the condition gives the walk. -/
theorem of_laid {W : World} (h : laidMetH Tryd.prog Rows.fnExactJoinTokensRow.laid W) : TabOk W := by
  rw [MakeChecks.laidMetH_plain _ _ _ (by kernel_rfl)] at h
  have h2 : laidMet Tryd.prog [("internal/strconv.uint64pow10", Lib.tabData .u64 Lib.pow10Tab)] W := laidMet.tail (laidMet.tail h)
  exact Lib.tabIs_of_head gPow tPow Tryd.underlying123 Tryd.underlying116 (by kernel_rfl) (by kernel_rfl) h2

set_option maxRecDepth 100000 in
theorem lifted (os : Os) (started : os.Started) (H : Type) (enc : TypeId × Value → H) :
    ReturnsInHanded {} Tryd.checked os 7 .any (fun w args => (Rows.fnExactJoinTokensSpec.pre enc Tryd.prog Tryd.f7 [] false w args ∧ laidMetH Tryd.prog Rows.fnExactJoinTokensRow.laid w) ∧ sizedMet enc Tryd.prog Tryd.f7 (OpenSpec.ofChange Rows.fnExactJoinTokensSpec) false w args)
      (Rows.fnExactJoinTokensSpec.post enc Tryd.prog Tryd.f7 false true false false) := by
  refine returnsInHanded_of_change_and (C := Tryd.checked) (X := fun w _ => laidMetH Tryd.prog Rows.fnExactJoinTokensRow.laid w) (fun _ _ _ hh h => h.of_heap hh) own started (by kernel_rfl) Tryd.func7
    (ChangeSpec.witness_shaped (enc := enc) (C := Tryd.checked) (os := os) (X := fun w _ => laidMetH Tryd.prog Rows.fnExactJoinTokensRow.laid w) false (World.doorLaid Tryd.prog 4000 os) #[.slice none 0 0] 8 rfl (World.shaped_of_RefB (by kernel_rfl) (by kernel_rfl)) (by kernel_rfl) (by kernel_rfl) (by kernel_rfl) (door_met os _)) ?_
  intro W base args ds gs before hval0 hW _ _ hL _
  have hval : ∀ (j : Nat) t v, Tryd.f7.params[j]? = some t → args[j]? = some v → Value.okWide Tryd.prog W .any base t v := hval0
  have hW' := hW
  obtain ⟨p, q, hA0, hV, rfl, hfz, hnd⟩ := hW
  have hA : DataW.TrodAll enc Tryd.prog W 0 (fun _ => true) true Tryd.f7.params.toList args.toList ds p := hA0
  rw [Tryd.params7] at hA hval
  obtain ⟨v0, vs0, d0, ds0, p0, q0, hargs, rfl, rfl, h0, rr0⟩ := trodAll_cons hA
  obtain ⟨rfl, rfl, rfl⟩ := trodAll_nil rr0
  obtain rfl : args = #[v0] := by cases args; simp_all
  obtain ⟨rfl, rfl⟩ := trodVars_none hV
  have kk0 := h0
  have lt0 : ∀ x ∈ p0, x.block < W.heap.size := by obtain ⟨m, hm⟩ := kk0; exact DataW.trod_lt m _ _ _ hm
  obtain ⟨M0, hf0⟩ := h0
  obtain ⟨b0, len0, cap0, rfl⟩ := okWide_slice Tryd.underlying50 (hval 0 50 v0 rfl rfl)
  obtain ⟨a0, c0, t0, ev0, r0, f0⟩ := read_tokens M0 _ _ hf0
  rw [ev0] at hW' kk0 hval ⊢

  clear hA0 hval0
  refine (walk W (of_laid hL) a0 c0 t0 r0 f0).mono fun e W' ⟨he, bel⟩ => ?_
  subst he
  exact ⟨_, rfl, _, _, _, [], _, [], hW', trodAll_mk1 (shut_bool Tryd.underlying4 _), (trodAll_cons_mk (Below.trod laidOut (by kernel_rfl) (of_decide_eq_true (by kernel_rfl)) kk0 bel lt0) trodAll_mk0), rfl, bel.frame _, fun h => by cases h⟩

theorem over : Rows.fnExactJoinTokensRow.holds Tryd.pinned (OpenSpec.ofChange Rows.fnExactJoinTokensSpec) :=
  OpenClaim.holds_of_wide 7 Tryd.f7 rfl rfl rfl rfl rfl rfl rfl ⟨rfl, rfl, rfl, rfl, rfl⟩ rfl rfl rfl rfl rfl (by kernel_rfl) Tryd.func7 (by kernel_rfl)
    (of_decide_eq_true (by kernel_rfl)) (by unfold Func.isWrapper; first | (rw [if_pos (by decide +kernel)]; kernel_rfl) | (rw [if_neg (by decide +kernel)]; exact ⟨rfl, rfl⟩))
    (fun os started H enc _ => lifted os started H enc)

theorem card_holds : Claim7.holds Tryd.pinned (.plain (OpenSpec.ofChange Rows.fnExactJoinTokensSpec)) Rows.fnExactJoinTokensCard :=
  Claim7.holds_tied_plain_at .later [] [.data, .data, .data] true (true, "0d8c3cce75a68d801dc2de5eab8a91f622c17bdc5bde344897ef15e8a0b8b3c3") true
    over (fun _ h => by cases h) (by kernel_rfl) (fun _ h => by cases h) fnExactJoinTokens_row_tie rfl ⟨rfl, rfl⟩ (by kernel_rfl) rfl
    (fun f fn hf hfn => by
      obtain rfl : f = 7 := Option.some.inj ((show Tryd.prog.funcNamed Tryd.f7.name = some 7 by kernel_rfl).symm.trans hf) |>.symm
      obtain rfl : fn = Tryd.f7 := (Option.some.inj (Tryd.func7.symm.trans hfn)).symm
      exact ⟨by kernel_rfl, fun j t ht => by
        rw [Tryd.params7] at ht
        have hm : t ∈ [50] := by simpa using Array.mem_of_getElem? ht
        have hall : ([50].all fun u => !Tryd.prog.wantsStandIn u) = true := by kernel_rfl
        exact (show Tryd.prog.wantsStandIn t = false by simpa using List.all_eq_true.1 hall t hm)⟩)
    (by kernel_rfl)

end Go.Proofs.YtickaplokjdijaaDoor.fnExactJoinTokens
namespace Go.Proofs.YtickaplokjdijaaDoor
/-- THE STATEMENT. -/
theorem fnExactJoinTokens_said : Rows.FnExactJoinTokensCardSaid := fnExactJoinTokens.card_holds
#print axioms fnExactJoinTokens_said
end Go.Proofs.YtickaplokjdijaaDoor
