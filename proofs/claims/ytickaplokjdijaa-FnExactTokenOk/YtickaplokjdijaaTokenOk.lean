/- The program and the model tell the same of every token whether it is right. No condition. (The frame round the walk is the guide's own way.) -/
import Derived.Test.YtickaplokjdijaaTk5
import Derived.Test.YtickaplokjdijaaTkRead
import Derived.WalkKit
import Derived.ProofKit
import Derived.OpenShut
import Derived.ShutString
import Derived.ChangeOld
import Derived.Below
namespace Go.Proofs.Ytickaplokjdijaa.fnExactTokenOk
open Go.ChangeShapes Go.WideShapes Go.ChangeAt Go.RowKit
open Go.ChangeMaps (open_string shut_string)
set_option linter.unusedVariables false

theorem own : ownKnob Try.prog.godebug = none := by kernel_rfl
theorem laidOut : laidOutB Try.prog = true := by kernel_rfl

set_option maxHeartbeats 1000000 in
theorem walk (w : World) (k0 n0 : Int) (s0 : ByteArray) (wk0 : I64 k0) (wn0 : I64 n0) (ws0 : s0.size ≤ maxLen) :
    Calls Try.prog 15 #[.agg #[.int .i64 k0, .int .i64 n0, .string s0]] w fun e w' => e = .returned (.bool true) ∧ Below w.heap.size w w' := by
  have hs : s0.size ≤ 9223372036854775807 := Nat.le_trans ws0 (by decide)
  go_enter Try.func15, Try.ntmps15
  go_wp2_with fail
  have bel1 : Below w.heap.size w (w.alloc (.cells #[.int .i64 k0, .int .i64 n0, .string s0] 56)) := (Below.refl _ _).alloc (Nat.le_refl _) _
  have hcel : (w.alloc (.cells #[.int .i64 k0, .int .i64 n0, .string s0] 56)).heap[w.heap.size]? = some (.cells #[.int .i64 k0, .int .i64 n0, .string s0] 56 (0, 0)) := heap_alloc_new w _
  refine (szToken_any k0 n0 s0 1048576 _ ws0 (by omega) (by omega)).mono ?_
  rintro e wa ⟨rfl, bela⟩
  have hcela := (bela.block _ (by simp)).trans hcel
  have belA : Below w.heap.size w wa := bel1.trans (bela.mono bel1.size)
  clear bel1 hcel bela
  by_cases hz : s0.size ≤ 1048576
  case neg =>
    have hl : lft 1048576 s0.size = -1 := by unfold lft; rw [if_neg (by omega)]
    rw [hl]
    clear hz hl
    go_wp2_with fail
    go_ret
    exact ⟨rfl, belA⟩
  have hl : ∃ x : Int, lft 1048576 s0.size = x ∧ 0 ≤ x := ⟨_, rfl, by unfold lft; rw [if_pos (by omega)]; omega⟩
  obtain ⟨x, hx, hx0⟩ := hl
  rw [hx]
  clear hz hx
  have hwz : w.heap.size < wa.heap.size := Nat.lt_of_not_le fun h => by rw [Array.getElem?_eq_none h] at hcela; cases hcela
  have c0 : wa.cell? ⟨w.heap.size, 0, none⟩ = some (.int .i64 k0) := by rw [cell_of_row wa _ 0 _ _ _ hcela]; rfl
  have c1 : wa.cell? ⟨w.heap.size, 1, none⟩ = some (.int .i64 n0) := by rw [cell_of_row wa _ 1 _ _ _ hcela]; rfl
  have c2 : wa.cell? ⟨w.heap.size, 2, none⟩ = some (.string s0) := by rw [cell_of_row wa _ 2 _ _ _ hcela]; rfl
  go_wp2_with fail
  refine (toToken_any k0 n0 s0 wa).mono ?_
  rintro e wb ⟨rfl, belb⟩
  clear c0 c1 c2
  go_wp2_with fail
  refine (specTokenOk_any k0 n0 s0 wb hs).mono ?_
  rintro e wc ⟨b, rfl, hb, belc⟩
  have HB : Hid (b = true ↔ TokP k0 n0 s0) := hb
  have belAc : Below wa.heap.size wa wc := belb.trans (belc.mono belb.size)
  have hcelc := (belAc.block _ hwz).trans hcela
  have belC : Below w.heap.size w wc := belA.trans (belAc.mono belA.size)
  clear belb belc belA belAc hcela hb hwz
  have c0 : wc.cell? ⟨w.heap.size, 0, none⟩ = some (.int .i64 k0) := by rw [cell_of_row wc _ 0 _ _ _ hcelc]; rfl
  have c1 : wc.cell? ⟨w.heap.size, 1, none⟩ = some (.int .i64 n0) := by rw [cell_of_row wc _ 1 _ _ _ hcelc]; rfl
  have c2 : wc.cell? ⟨w.heap.size, 2, none⟩ = some (.string s0) := by rw [cell_of_row wc _ 2 _ _ _ hcelc]; rfl
  go_wp2_with fail
  refine (toToken_any k0 n0 s0 wc).mono ?_
  rintro e wd ⟨rfl, beld⟩
  clear c0 c1 c2
  go_wp2_with fail
  refine (tokenOk_any k0 n0 s0 wd hs).mono ?_
  rintro e we ⟨b2, rfl, hb2, bele⟩
  have belE : Below w.heap.size w we := (belC.trans (beld.mono belC.size)).trans (bele.mono (Nat.le_trans belC.size beld.size))
  have hbb : b2 = b := by
    have := hb2.trans HB.out.symm
    cases b <;> cases b2 <;> simp at this <;> rfl
  subst hbb
  have hne : (b2 != b2) = false := by simp
  clear hb2 HB belC beld bele
  go_wp2_with fail
  go_ret
  exact ⟨rfl, belE⟩

set_option maxRecDepth 100000 in
theorem lifted (os : Os) (started : os.Started) (H : Type) (enc : TypeId × Value → H) :
    ReturnsInHanded {} Try.checked os 15 .any (Rows.fnExactTokenOkSpec.pre6 enc Try.prog Try.f15 Rows.fnExactTokenOkRow.domain false) (Rows.fnExactTokenOkSpec.post enc Try.prog Try.f15 false true false false) := by
  refine returnsInHanded_of_change (C := Try.checked) own started (by kernel_rfl) Try.func15
    (ChangeSpec.witness6 (enc := enc) (C := Try.checked) false ⟨#[], #[.agg #[.int .i64 0, .int .i64 0, .string ⟨#[]⟩]], []⟩ 8 (by kernel_rfl) (by kernel_rfl) (by kernel_rfl) (by kernel_rfl)) ?_
  intro W base args ds gs before hval0 hW hcnd _
  have hval : ∀ (j : Nat) t v, Try.f15.params[j]? = some t → args[j]? = some v → Value.okWide Try.prog W .any base t v := hval0
  have hW' := hW
  obtain ⟨p, q, hA0, hV, rfl, hfz, hnd⟩ := hW
  have hA : DataW.TrodAll enc Try.prog W 0 (fun _ => true) true Try.f15.params.toList args.toList ds p := hA0
  rw [Try.params15] at hA hval
  obtain ⟨v0, vs0, d0, ds0, p0, q0, hargs, rfl, rfl, h0, rr0⟩ := trodAll_cons hA
  obtain ⟨rfl, rfl, rfl⟩ := trodAll_nil rr0
  obtain rfl : args = #[v0] := by cases args; simp_all
  obtain ⟨rfl, rfl⟩ := trodVars_none hV
  have kk0 := h0
  have lt0 : ∀ x ∈ p0, x.block < W.heap.size := by obtain ⟨m, hm⟩ := kk0; exact DataW.trod_lt m _ _ _ hm
  obtain ⟨k0, n0, s0, rfl, wk0, wn0, ws0⟩ := read_token (hval 0 56 v0 rfl rfl) h0

  clear hA0 hval0
  refine (walk W k0 n0 s0 wk0 wn0 ws0).mono fun e W' ⟨he, bel⟩ => ?_
  subst he
  exact ⟨_, rfl, _, _, _, [], _, [], hW', trodAll_mk1 (shut_bool Try.underlying4 _), (trodAll_cons_mk (Below.trod laidOut (by kernel_rfl) (of_decide_eq_true (by kernel_rfl)) kk0 bel lt0) trodAll_mk0), rfl, bel.frame _, fun h => by cases h⟩

theorem over : Rows.fnExactTokenOkRow.holds Try.pinned (OpenSpec.ofChange Rows.fnExactTokenOkSpec) :=
  OpenClaim.holds_of_wide 15 Try.f15 rfl rfl rfl rfl rfl rfl rfl ⟨rfl, rfl, rfl, rfl, rfl⟩ rfl rfl rfl rfl rfl (by kernel_rfl) Try.func15 (by kernel_rfl)
    (of_decide_eq_true (by kernel_rfl)) (by unfold Func.isWrapper; first | (rw [if_pos (by decide +kernel)]; kernel_rfl) | (rw [if_neg (by decide +kernel)]; exact ⟨rfl, rfl⟩))
    (fun os started H enc _ => lifted os started H enc)

end Go.Proofs.Ytickaplokjdijaa.fnExactTokenOk
namespace Go.Proofs.Ytickaplokjdijaa
/-- THE STATEMENT. -/
theorem fnExactTokenOk_said : Rows.FnExactTokenOkSaid := fnExactTokenOk.over
#print axioms fnExactTokenOk_said
end Go.Proofs.Ytickaplokjdijaa
