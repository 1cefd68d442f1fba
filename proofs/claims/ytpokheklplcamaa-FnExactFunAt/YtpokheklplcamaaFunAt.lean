/- For every module and name: FunAt of the program answers as the model, and leaves the argument as it was. (The frame round the walk is the guide's own way.) -/
import Derived.Test.YtpokheklplcamaaFa
import Derived.WalkKit
import Derived.ProofKit
import Derived.OpenShut
import Derived.ShutString
import Derived.ChangeOld
import Derived.Below
namespace Go.Proofs.Ytpokheklplcamaa.fnExactFunAt
open Go.ChangeShapes Go.WideShapes Go.ChangeAt Go.RowKit
open Go.ChangeMaps (open_string shut_string)
set_option linter.unusedVariables false

theorem own : ownKnob Try.prog.godebug = none := by kernel_rfl
theorem laidOut : laidOutB Try.prog = true := by kernel_rfl

set_option maxHeartbeats 1000000 in
theorem walk (d : Nat) (w : World) (u0 : Value) (m0 : List (Fu d)) (r0 : RowOf 7 (FuR d) w u0 m0) (f0 : WfRow (WfF d) m0) (a1 : ByteArray) (w1 : a1.size ≤ maxLen) :
    Calls Try.prog 7 #[.agg #[u0], .string a1] w fun e w' => e = .returned (.bool true) ∧ Below w.heap.size w w' := by
  obtain ⟨a, c, e0⟩ := r0.slice
  obtain ⟨len, hlen⟩ : ∃ l, m0.length = l := ⟨_, rfl⟩
  rw [hlen] at e0
  subst e0
  have HR : Hid (∀ V : World, Below w.heap.size w V → RowOf 7 (FuR d) V (.slice a len c) m0) := fun V hV => r0.later (FuR.lasts d) hV
  have HF : Hid (WfRow (WfF d) m0) := f0
  obtain ⟨W0, hW0⟩ : ∃ W, W = w.alloc (.cells #[.slice a len c] 49) := ⟨_, rfl⟩
  have bel0 : Below w.heap.size w W0 := by rw [hW0]; exact (Below.refl _ _).alloc (Nat.le_refl _) _
  have box0 : W0.heap[w.heap.size]? = some (.cells #[.slice a len c] 49 (0, 0)) := by rw [hW0]; exact heap_alloc_new w _
  have hC := szModule_any d _ m0 1048576 W0 (HR.out W0 bel0) HF.out (by omega) (by omega)
  rw [hW0] at hC
  have HW0 : Hid (W0 = _) := hW0
  have hmx : maxLen ≤ 9223372036854775807 := by decide
  by_cases hnm : a1.size ≤ 1048576
  case neg =>
    have hnm' : (1048576 : Int) < (a1.size : Int) := by omega
    rw [← HW0.out] at hC
    clear hC r0 f0 HR HF hnm
    have HBX : Hid (Below w.heap.size w W0) := bel0
    clear box0 bel0
    rw [HW0.out] at HBX
    go_enter Try.func7, Try.ntmps7
    go_wp2_with fail
    go_ret
    exact ⟨rfl, HBX.out⟩
  have hnm' : ¬ (1048576 : Int) < (a1.size : Int) := by omega
  clear r0 f0 hW0 hlen
  go_enter Try.func7, Try.ntmps7
  go_wp2_with fail
  refine hC.mono ?_
  clear hC
  rintro e wa ⟨rfl, bela⟩
  rw [← HW0.out] at bela
  have boxa := (bela.block _ (lt_row box0)).trans box0
  have belA : Below w.heap.size w wa := bel0.trans (bela.mono bel0.size)
  clear bel0 bela box0 HW0
  by_cases hz : szM d m0 ≤ 1048576
  case neg =>
    have hl : lft 1048576 (szM d m0) = -1 := by unfold lft; rw [if_neg (by omega)]
    rw [hl]
    clear hz hl boxa
    go_wp2_with fail
    go_ret
    exact ⟨rfl, belA⟩
  have hl : ∃ x : Int, lft 1048576 (szM d m0) = x ∧ 0 ≤ x := ⟨_, rfl, by unfold lft; rw [if_pos (by omega)]; omega⟩
  obtain ⟨x, hx, hxp⟩ := hl
  rw [hx]
  have HZ : Hid (szM d m0 ≤ 1048576) := hz
  clear hz hx
  have HML : Hid (m0.length ≤ 1048576) := by show _ ≤ _; have h1 : szRow (szF d) m0 ≤ 1048576 := HZ.out; have h2 : m0.length ≤ szRow (szF d) m0 := Nat.le_add_right _ _; omega
  have HTO : Hid (∀ X : World, Below w.heap.size w X → _) := fun X hX => toModule_any d _ m0 X (HR.out X hX) HF.out HZ.out
  have b0 : wa.cell? ⟨w.heap.size, 0, none⟩ = some (.slice a len c) := by rw [cell_of_row wa _ 0 _ _ _ boxa]; rfl
  go_wp2_with fail
  refine (HTO.out wa belA).mono ?_
  rintro e wb ⟨k1, l1, c1, fp1, rfl, own1, fr1, belb⟩
  clear b0
  have boxb := (belb.block _ (lt_row boxa)).trans boxa
  have belB : Below w.heap.size w wb := belA.trans (belb.mono belA.size)
  have hC := specFunAt_any d _ m0 a1 wb (own1.rd (FuO.reads d)) HML.out
  clear own1 fr1 belb boxa belA
  go_wp2_with fail
  refine hC.mono ?_
  clear hC
  rintro e wcc ⟨g1, rfl, HG1, belc⟩
  have boxc := (belc.block _ (lt_row boxb)).trans boxb
  have belC : Below w.heap.size w wcc := belB.trans (belc.mono belB.size)
  clear belc boxb belB
  have b0 : wcc.cell? ⟨w.heap.size, 0, none⟩ = some (.slice a len c) := by rw [cell_of_row wcc _ 0 _ _ _ boxc]; rfl
  go_wp2_with fail
  refine (HTO.out wcc belC).mono ?_
  rintro e wd ⟨a2, l2, c2, fp2, rfl, own2, fr2, beld⟩
  clear b0
  obtain ⟨we, hwe⟩ : ∃ we, we = wd.alloc (.cells #[.slice a2 l2 c2] 54) := ⟨_, rfl⟩
  have bele : Below wd.heap.size wd we := by rw [hwe]; exact (Below.refl _ _).alloc (Nat.le_refl _) _
  have hxe : we.heap[wd.heap.size]? = some (.cells #[.slice a2 l2 c2] 54 (0, 0)) := by rw [hwe]; exact heap_alloc_new wd _
  have belce : Below wcc.heap.size wcc we := beld.trans (bele.mono beld.size)
  have boxe := (belce.block _ (lt_row boxc)).trans boxc
  have belE : Below w.heap.size w we := belC.trans (belce.mono belC.size)
  have HOE : Hid (∀ V : World, Below we.heap.size we V → OwnRow 7 100 (FuO d) V (.slice a2 l2 c2) m0 fp2) := fun V hV => own2.frame (FuO.lasts d) fun g hg => (hV.block g (Nat.lt_of_lt_of_le (fr2.2 g hg).2 bele.size)).trans (bele.block g (fr2.2 g hg).2)
  have hC := funAt_any d _ m0 a1 we ((HOE.out we (Below.refl _ _)).rd (FuO.reads d)) HML.out
  rw [hwe] at hC
  have HWE : Hid (we = _) := hwe
  clear hwe own2 fr2 beld bele belce boxc belC
  go_wp2_with fail
  refine hC.mono ?_
  clear hC
  rintro e wg ⟨g2, rfl, HG2, belg⟩
  rw [← HWE.out] at belg
  have hgg : g1 = g2 := HG1.out.same HG2.out
  subst hgg
  have hxg := (belg.block _ (lt_row hxe)).trans hxe
  have HBG : Hid (Below we.heap.size we wg) := belg
  have hboxg := (belg.block _ (lt_row boxe)).trans boxe
  have HSG : Hid (Below w.heap.size w wg) := belE.trans (belg.mono belE.size)
  have b0 : wg.cell? ⟨w.heap.size, 0, none⟩ = some (.slice a len c) := by rw [cell_of_row wg _ 0 _ _ _ hboxg]; rfl
  have d0 : wg.cell? ⟨wd.heap.size, 0, none⟩ = some (.slice a2 l2 c2) := by rw [cell_of_row wg _ 0 _ _ _ hxg]; rfl
  clear belg hxe boxe belE HG1 HG2 hxg hboxg
  have HTG : Hid (∀ X : World, Below wg.heap.size wg X → Calls Try.prog 30 #[.agg #[.slice a len c]] X fun e V => ∃ a3 l3 c3, e = .returned (.agg #[.slice a3 l3 c3]) ∧ Hid (RowOf 7 (FuR d) V (.slice a3 l3 c3) m0) ∧ Below wg.heap.size wg V) := fun X hX => by
    refine (HTO.out X (HSG.out.trans (hX.mono HSG.out.size))).mono ?_
    rintro e V ⟨a3, l3, c3, fp3, rfl, own3, _, hB⟩
    exact ⟨a3, l3, c3, rfl, own3.rd (FuO.reads d), hX.trans (hB.mono hX.size)⟩
  have HEX : Hid (∀ (V : World) (a3 : Option Addr) (l3 c3 : Nat), Below wg.heap.size wg V → RowOf 7 (FuR d) V (.slice a3 l3 c3) m0 → _) := fun V a3 l3 c3 hV h => eqModule_any d _ _ m0 V ((HOE.out V (HBG.out.trans (hV.mono HBG.out.size))).rd (FuO.reads d)) h HF.out
  have hlst : Below wg.heap.size wg wg.drew := (Below.refl _ _).drew
  have hne : (g1 != g1) = false := by simp
  go_wp2_with fail
  go_region_with (first | (go_at_call 30; refine (HTG.out _ hlst).mono ?_; rintro e V ⟨a3, l3, c3, rfl, HR3, hB⟩; have e0 := cell_later hB d0) | (go_at_call 32; refine (HEX.out V a3 l3 c3 hB HR3.out).mono ?_; rintro e V2 ⟨rfl, hB2⟩))
  all_goals
    have hbf : Below w.heap.size w V2 := HSG.out.trans ((hB.trans (hB2.mono hB.size)).mono HSG.out.size)
    clear hB hB2
    go_wp2_with fail
    go_ret
    exact ⟨rfl, hbf⟩

set_option maxRecDepth 100000 in
theorem lifted (os : Os) (started : os.Started) (H : Type) (enc : TypeId × Value → H) :
    ReturnsInHanded {} Try.checked os 7 .any (Rows.fnExactFunAtSpec.pre6 enc Try.prog Try.f7 Rows.fnExactFunAtRow.domain false) (Rows.fnExactFunAtSpec.post enc Try.prog Try.f7 false true false false) := by
  refine returnsInHanded_of_change (C := Try.checked) own started (by kernel_rfl) Try.func7
    (ChangeSpec.witness6 (enc := enc) (C := Try.checked) false ⟨#[], #[.agg #[.slice none 0 0], .string ⟨#[]⟩], []⟩ 8 (by kernel_rfl) (by kernel_rfl) (by kernel_rfl) (by kernel_rfl)) ?_
  intro W base args ds gs before hval0 hW hcnd _
  have hval : ∀ (j : Nat) t v, Try.f7.params[j]? = some t → args[j]? = some v → Value.okWide Try.prog W .any base t v := hval0
  have hW' := hW
  obtain ⟨p, q, hA0, hV, rfl, hfz, hnd⟩ := hW
  have hA : DataW.TrodAll enc Try.prog W 0 (fun _ => true) true Try.f7.params.toList args.toList ds p := hA0
  rw [Try.params7] at hA hval
  obtain ⟨v0, vs0, d0, ds0, p0, q0, hargs, rfl, rfl, h0, rr0⟩ := trodAll_cons hA
  obtain ⟨v1, vs1, d1, ds1, p1, q1, rfl, rfl, rfl, h1, rr1⟩ := trodAll_cons rr0
  obtain ⟨rfl, rfl, rfl⟩ := trodAll_nil rr1
  obtain rfl : args = #[v0, v1] := by cases args; simp_all
  obtain ⟨rfl, rfl⟩ := trodVars_none hV
  have kk0 := h0
  have lt0 : ∀ x ∈ p0, x.block < W.heap.size := by obtain ⟨m, hm⟩ := kk0; exact DataW.trod_lt m _ _ _ hm
  obtain ⟨M0, R0⟩ := read_module (hval 0 49 v0 rfl rfl) h0
  obtain ⟨a1, rfl, rfl, rfl, w1⟩ := open_string Try.underlying9 (hval 1 9 v1 rfl rfl) h1
  obtain ⟨d, hd⟩ : ∃ d, d = M0 := ⟨_, rfl⟩
  obtain ⟨u0, m0, rfl, r0, f0⟩ := R0 d (by omega)
  clear hA0 hval0
  refine (walk d W u0 m0 r0 f0 a1 w1).mono fun e W' ⟨he, bel⟩ => ?_
  subst he
  exact ⟨_, rfl, _, _, _, [], _, [], hW', trodAll_mk1 (shut_bool Try.underlying4 _), (trodAll_cons_mk (Below.trod laidOut (by kernel_rfl) (of_decide_eq_true (by kernel_rfl)) kk0 bel lt0) (trodAll_cons_mk (shut_string Try.underlying9 w1) trodAll_mk0)), rfl, bel.frame _, fun h => by cases h⟩

theorem over : Rows.fnExactFunAtRow.holds Try.pinned (OpenSpec.ofChange Rows.fnExactFunAtSpec) :=
  OpenClaim.holds_of_wide 7 Try.f7 rfl rfl rfl rfl rfl rfl rfl ⟨rfl, rfl, rfl, rfl, rfl⟩ rfl rfl rfl rfl rfl (by kernel_rfl) Try.func7 (by kernel_rfl)
    (of_decide_eq_true (by kernel_rfl)) (by unfold Func.isWrapper; first | (rw [if_pos (by decide +kernel)]; kernel_rfl) | (rw [if_neg (by decide +kernel)]; exact ⟨rfl, rfl⟩))
    (fun os started H enc _ => lifted os started H enc)

end Go.Proofs.Ytpokheklplcamaa.fnExactFunAt
namespace Go.Proofs.Ytpokheklplcamaa
/-- THE STATEMENT. -/
theorem fnExactFunAt_said : Rows.FnExactFunAtSaid := fnExactFunAt.over
#print axioms fnExactFunAt_said
end Go.Proofs.Ytpokheklplcamaa
