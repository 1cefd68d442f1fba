/- The program and the model tell the same number of every term. No condition. (The frame round the walk is the guide's own way.) -/
import Derived.Test.YtjdhkhpdhblhbaaCntIM
import Derived.Test.YtjdhkhpdhblhbaaTmM
import Derived.WalkKit
import Derived.Deep.DeepCutAuto
import Derived.ProofKit
import Derived.OpenShut
import Derived.ShutString
import Derived.ChangeOld
import Derived.Below
namespace Go.Proofs.Ytjdhkhpdhblhbaa.fnExactCountOf
open Go.ChangeShapes Go.WideShapes Go.ChangeAt Go.RowKit
open Go.ChangeMaps (open_string shut_string)
set_option linter.unusedVariables false

theorem own : ownKnob Try.prog.godebug = none := by kernel_rfl
theorem laidOut : laidOutB Try.prog = true := by kernel_rfl

set_option maxRecDepth 100000 in
set_option maxHeartbeats 8000000 in
theorem walk (d : Nat) (w : World) (k0 n0 : Int) (s0 : ByteArray) (l0 : Value) (t0 : List (Tm d)) (wk0 : I64 k0) (wn0 : I64 n0) (ws0 : s0.size ≤ maxLen) (r0 : RdL d w l0 t0) (f0 : WfL d t0) :
    Calls Try.prog 4 #[.agg #[.int .i64 k0, .int .i64 n0, .string s0, l0]] w fun e w' => e = .returned (.bool true) ∧ Below w.heap.size w w' := by
  have hs : s0.size ≤ 9223372036854775807 := Nat.le_trans ws0 (by decide)
  obtain ⟨a, c, e0⟩ := r0.len
  obtain ⟨len, hlen⟩ : ∃ len, t0.length = len := ⟨_, rfl⟩
  rw [hlen] at e0
  subst e0
  have HR : Hid (RdL d w (.slice a len c) t0) := r0
  have HF : Hid (WfL d t0) := f0
  clear r0 f0 hlen
  go_enter Try.func4, Try.ntmps4
  go_wp2_with fail
  have bel1 : Below w.heap.size w (w.alloc (.cells #[.int .i64 k0, .int .i64 n0, .string s0, .slice a len c] 24)) := (Below.refl _ _).alloc (Nat.le_refl _) _
  have hcel : (w.alloc (.cells #[.int .i64 k0, .int .i64 n0, .string s0, .slice a len c] 24)).heap[w.heap.size]? = some (.cells #[.int .i64 k0, .int .i64 n0, .string s0, .slice a len c] 24 (0, 0)) := heap_alloc_new w _
  refine (szTerm_of d (szTermS_any d) k0 n0 s0 _ t0 1048576 _ (HR.out.later bel1) HF.out ws0 (by omega) (by omega)).mono ?_
  rintro e wa ⟨rfl, bela⟩
  have hcela := (bela.block _ (by simp)).trans hcel
  have belA : Below w.heap.size w wa := bel1.trans (bela.mono bel1.size)
  clear bel1 hcel bela
  by_cases hz : s0.size + szL d t0 ≤ 1048576
  case neg =>
    have hl : lft 1048576 (s0.size + szL d t0) = -1 := by unfold lft; rw [if_neg (by omega)]
    rw [hl]
    clear hz hl
    go_wp2_with fail
    go_ret
    exact ⟨rfl, belA⟩
  have hl : ∃ x : Int, lft 1048576 (s0.size + szL d t0) = x ∧ 0 ≤ x := ⟨_, rfl, by unfold lft; rw [if_pos (by omega)]; omega⟩
  obtain ⟨x, hx, hx0⟩ := hl
  rw [hx]
  have HZ : Hid (szL d t0 ≤ 1048576) := by show _ ≤ _; omega
  clear hz hx
  have c0 : wa.cell? ⟨w.heap.size, 0, none⟩ = some (.int .i64 k0) := by rw [cell_of_row wa _ 0 _ _ _ hcela]; rfl
  have c1 : wa.cell? ⟨w.heap.size, 1, none⟩ = some (.int .i64 n0) := by rw [cell_of_row wa _ 1 _ _ _ hcela]; rfl
  have c2 : wa.cell? ⟨w.heap.size, 2, none⟩ = some (.string s0) := by rw [cell_of_row wa _ 2 _ _ _ hcela]; rfl
  have c3 : wa.cell? ⟨w.heap.size, 3, none⟩ = some (.slice a len c) := by rw [cell_of_row wa _ 3 _ _ _ hcela]; rfl
  go_wp2_with fail
  refine (toTerm_of d (toTermS_any d) k0 n0 s0 _ t0 wa (HR.out.later belA) HF.out HZ.out).mono ?_
  rintro e wb ⟨a1, l1, c1', fp1, rfl, own1, fr1, belb⟩
  have belB : Below w.heap.size w wb := belA.trans (belb.mono belA.size)
  have hwz : w.heap.size < wa.heap.size := Nat.lt_of_not_le fun h => by rw [Array.getElem?_eq_none h] at hcela; cases hcela
  clear c0 c1 c2 c3
  have hrd := own1.rd
  go_wp2_with fail
  have hcn : cntL d t0 ≤ 1048576 := Nat.le_trans (cntL_szL d t0) HZ.out
  have hsp := specCountOf_any d k0 n0 s0 _ t0 wb hrd HF.out (by omega)
  obtain ⟨q, hq⟩ : ∃ q : Int, ((1 + cntL d t0 : Nat) : Int) = q := ⟨_, rfl⟩
  rw [hq] at hsp
  have HQ : Hid (((1 + cntL d t0 : Nat) : Int) = q) := hq
  refine hsp.mono ?_
  clear hsp hq
  rintro e wc ⟨rfl, belc⟩
  have hcelc := ((belc.block _ (Nat.lt_of_lt_of_le hwz belb.size)).trans (belb.block _ hwz)).trans hcela
  have belC : Below w.heap.size w wc := belB.trans (belc.mono belB.size)
  have hwzc : w.heap.size < wc.heap.size := Nat.lt_of_lt_of_le hwz (Nat.le_trans belb.size belc.size)
  clear own1 fr1 hrd belb belc belA belB hcela hwz
  have c0 : wc.cell? ⟨w.heap.size, 0, none⟩ = some (.int .i64 k0) := by rw [cell_of_row wc _ 0 _ _ _ hcelc]; rfl
  have c1 : wc.cell? ⟨w.heap.size, 1, none⟩ = some (.int .i64 n0) := by rw [cell_of_row wc _ 1 _ _ _ hcelc]; rfl
  have c2 : wc.cell? ⟨w.heap.size, 2, none⟩ = some (.string s0) := by rw [cell_of_row wc _ 2 _ _ _ hcelc]; rfl
  have c3 : wc.cell? ⟨w.heap.size, 3, none⟩ = some (.slice a len c) := by rw [cell_of_row wc _ 3 _ _ _ hcelc]; rfl
  go_wp2_with fail
  refine (toTerm_of d (toTermS_any d) k0 n0 s0 _ t0 wc (HR.out.later belC) HF.out HZ.out).mono ?_
  rintro e wd ⟨a2, l2, c2', fp2, rfl, own2, fr2, beld⟩
  have belD : Below w.heap.size w wd := belC.trans (beld.mono belC.size)
  clear c0 c1 c2 c3
  obtain ⟨we, hwe⟩ : ∃ we, we = wd.alloc (.cells #[.int .i64 k0, .int .i64 n0, .string s0, .slice a2 l2 c2'] 29) := ⟨_, rfl⟩
  have bele : Below wd.heap.size wd we := by rw [hwe]; exact (Below.refl _ _).alloc (Nat.le_refl _) _
  have belE : Below w.heap.size w we := belD.trans (bele.mono belD.size)
  have hxe : we.heap[wd.heap.size]? = some (.cells #[.int .i64 k0, .int .i64 n0, .string s0, .slice a2 l2 c2'] 29 (0, 0)) := by rw [hwe]; exact heap_alloc_new wd _
  have hcele := ((bele.block _ (Nat.lt_of_lt_of_le hwzc beld.size)).trans (beld.block _ hwzc)).trans hcelc
  have hze : wd.heap.size < we.heap.size := by rw [hwe]; simp
  have hrd := own2.rd.later bele
  have hC := countOf_any d k0 n0 s0 _ t0 we (own2.rdq.later bele) (by omega)
  rw [HQ.out] at hC
  rw [hwe] at hC
  have HWE : Hid (we = _) := hwe
  clear hwe
  go_wp2_with fail
  refine hC.mono ?_
  clear hC
  rintro e wf ⟨rfl, belf⟩
  rw [← HWE.out] at belf
  have belF : Below w.heap.size w wf := belE.trans (belf.mono belE.size)
  have hxf := (belf.block _ hze).trans hxe
  have hwzd : w.heap.size < wd.heap.size := Nat.lt_of_lt_of_le hwzc beld.size
  have hcelf := (belf.block _ (Nat.lt_trans hwzd hze)).trans hcele
  have hrdf := hrd.later belf
  clear HQ HWE hxe hcele hcelc belf bele belE beld belD own2 fr2 hrd
  have c0 : wf.cell? ⟨w.heap.size, 0, none⟩ = some (.int .i64 k0) := by rw [cell_of_row wf _ 0 _ _ _ hcelf]; rfl
  have c1 : wf.cell? ⟨w.heap.size, 1, none⟩ = some (.int .i64 n0) := by rw [cell_of_row wf _ 1 _ _ _ hcelf]; rfl
  have c2 : wf.cell? ⟨w.heap.size, 2, none⟩ = some (.string s0) := by rw [cell_of_row wf _ 2 _ _ _ hcelf]; rfl
  have c3 : wf.cell? ⟨w.heap.size, 3, none⟩ = some (.slice a len c) := by rw [cell_of_row wf _ 3 _ _ _ hcelf]; rfl
  have d0 : wf.cell? ⟨wd.heap.size, 0, none⟩ = some (.int .i64 k0) := by rw [cell_of_row wf _ 0 _ _ _ hxf]; rfl
  have d1 : wf.cell? ⟨wd.heap.size, 1, none⟩ = some (.int .i64 n0) := by rw [cell_of_row wf _ 1 _ _ _ hxf]; rfl
  have d2 : wf.cell? ⟨wd.heap.size, 2, none⟩ = some (.string s0) := by rw [cell_of_row wf _ 2 _ _ _ hxf]; rfl
  have d3 : wf.cell? ⟨wd.heap.size, 3, none⟩ = some (.slice a2 l2 c2') := by rw [cell_of_row wf _ 3 _ _ _ hxf]; rfl
  have HTO : Hid (∀ X, Below wf.heap.size wf X → Calls Try.prog 11 #[.agg #[.int .i64 k0, .int .i64 n0, .string s0, .slice a len c]] X fun e V => ∃ a3 l3 c3', e = .returned (.agg #[.int .i64 k0, .int .i64 n0, .string s0, .slice a3 l3 c3']) ∧ RdL d V (.slice a3 l3 c3') t0 ∧ Below wf.heap.size wf V) := fun X hX => by
    refine (toTerm_of d (toTermS_any d) k0 n0 s0 _ t0 X (HR.out.later (belF.trans (hX.mono belF.size))) HF.out HZ.out).mono ?_
    rintro e V ⟨a3, l3, c3', fp3, rfl, own3, _, hB⟩
    exact ⟨a3, l3, c3', rfl, own3.rd, hX.trans (hB.mono hX.size)⟩
  have HRD : Hid (RdL d wf (.slice a2 l2 c2') t0) := hrdf
  clear hrdf hcelf hxf
  have hlst : Below wf.heap.size wf wf.drew := (Below.refl _ _).drew
  go_wp2_with fail
  go_region_with (first | (go_at_call 11; refine (HTO.out _ hlst).mono ?_; rintro e V ⟨a3, l3, c3', rfl, hrd3, hB⟩; have e0 := cell_later hB d0; have e1 := cell_later hB d1; have e2 := cell_later hB d2; have e3 := cell_later hB d3) | (go_at_call 13; refine (eqTerm_of d (eqTermS_any d) k0 n0 s0 _ _ t0 _ (HRD.out.later hB) hrd3 HF.out).mono ?_; rintro e V2 ⟨rfl, hB2⟩))
  all_goals
    have hbf : Below w.heap.size w V2 := belF.trans ((hB.trans (hB2.mono hB.size)).mono belF.size)
    clear hB hB2
    go_wp2_with fail
    go_ret
    exact ⟨rfl, hbf⟩

set_option maxRecDepth 100000 in
theorem lifted (os : Os) (started : os.Started) (H : Type) (enc : TypeId × Value → H) :
    ReturnsInHanded {} Try.checked os 4 .any (Rows.fnExactCountOfSpec.pre6 enc Try.prog Try.f4 Rows.fnExactCountOfRow.domain false) (Rows.fnExactCountOfSpec.post enc Try.prog Try.f4 false true false false) := by
  refine returnsInHanded_of_change (C := Try.checked) own started (by kernel_rfl) Try.func4
    (ChangeSpec.witness6 (enc := enc) (C := Try.checked) false ⟨#[], #[.agg #[.int .i64 0, .int .i64 0, .string ⟨#[]⟩, .slice none 0 0]], []⟩ 8 (by kernel_rfl) (by kernel_rfl) (by kernel_rfl) (by kernel_rfl)) ?_
  intro W base args ds gs before hval0 hW hcnd _
  have hval : ∀ (j : Nat) t v, Try.f4.params[j]? = some t → args[j]? = some v → Value.okWide Try.prog W .any base t v := hval0
  have hW' := hW
  obtain ⟨p, q, hA0, hV, rfl, hfz, hnd⟩ := hW
  have hA : DataW.TrodAll enc Try.prog W 0 (fun _ => true) true Try.f4.params.toList args.toList ds p := hA0
  rw [Try.params4] at hA hval
  obtain ⟨v0, vs0, d0, ds0, p0, q0, hargs, rfl, rfl, h0, rr0⟩ := trodAll_cons hA
  obtain ⟨rfl, rfl, rfl⟩ := trodAll_nil rr0
  obtain rfl : args = #[v0] := by cases args; simp_all
  obtain ⟨rfl, rfl⟩ := trodVars_none hV
  have kk0 := h0
  have lt0 : ∀ x ∈ p0, x.block < W.heap.size := by obtain ⟨m, hm⟩ := kk0; exact DataW.trod_lt m _ _ _ hm
  obtain ⟨M0, R0⟩ := read_term (hval 0 24 v0 rfl rfl) h0
  obtain ⟨d, hd⟩ : ∃ d, d = M0 := ⟨_, rfl⟩
  obtain ⟨k0, n0, s0, l0, t0, rfl, wk0, wn0, ws0, r0, f0⟩ := R0 d (by omega)
  clear hA0 hval0
  refine (walk d W k0 n0 s0 l0 t0 wk0 wn0 ws0 r0 f0).mono fun e W' ⟨he, bel⟩ => ?_
  subst he
  exact ⟨_, rfl, _, _, _, [], _, [], hW', trodAll_mk1 (shut_bool Try.underlying4 _), (trodAll_cons_mk (Below.trod laidOut (by kernel_rfl) (of_decide_eq_true (by kernel_rfl)) kk0 bel lt0) trodAll_mk0), rfl, bel.frame _, fun h => by cases h⟩

theorem over : Rows.fnExactCountOfRow.holds Try.pinned (OpenSpec.ofChange Rows.fnExactCountOfSpec) :=
  OpenClaim.holds_of_wide 4 Try.f4 rfl rfl rfl rfl rfl rfl rfl ⟨rfl, rfl, rfl, rfl, rfl⟩ rfl rfl rfl rfl rfl (by kernel_rfl) Try.func4 (by kernel_rfl)
    (of_decide_eq_true (by kernel_rfl)) (by unfold Func.isWrapper; first | (rw [if_pos (by decide +kernel)]; kernel_rfl) | (rw [if_neg (by decide +kernel)]; exact ⟨rfl, rfl⟩))
    (fun os started H enc _ => lifted os started H enc)

end Go.Proofs.Ytjdhkhpdhblhbaa.fnExactCountOf
namespace Go.Proofs.Ytjdhkhpdhblhbaa
/-- THE STATEMENT. -/
theorem fnExactCountOf_said : Rows.FnExactCountOfSaid := fnExactCountOf.over
#print axioms fnExactCountOf_said
end Go.Proofs.Ytjdhkhpdhblhbaa
