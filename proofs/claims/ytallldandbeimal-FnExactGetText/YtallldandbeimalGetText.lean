/- At every row of bytes and every place the program's GetText answers as the model's, text, place and flag, writes nothing and returns; no condition. (The frame round the walk is the guide's, by its own program.) -/
import Derived.Test.YtallldandbeimalText
import Derived.Test.YtallldandbeimalEq
import Derived.WalkKit
import Derived.ProofKit
import Derived.OpenShut
import Derived.ShutString
import Derived.ChangeOld
import Derived.Below
namespace Go.Proofs.Ytallldandbeimal.fnExactGetText
open Go.ChangeShapes Go.WideShapes Go.ChangeAt Go.RowKit
open Go.ChangeMaps (open_string shut_string)
set_option linter.unusedVariables false

theorem own : ownKnob Try.prog.godebug = none := by kernel_rfl
theorem laidOut : laidOutB Try.prog = true := by kernel_rfl

/-! ### STEP 1: THE WALK: the Go text returns true, AND WRITES NOTHING THAT WAS THERE: 'Below w.heap.size w w'' (Derived/Below.lean: '.refl', '.alloc', '.drew', '.setCell' at a new block, '.trans'). Open each 'IsRow' by 'rcases' AHEAD of 'go_enter'; part every test ahead of the walk. -/
set_option maxHeartbeats 1000000 in
theorem walk (a0 : Option Addr) (len0 cap0 : Nat) (z0 : List Int) (a1 : Int) (w : World) (w0 : IsRow .u8 w a0 len0 cap0 z0) (w1 : (Lit.int .i64 a1).wf = true) :
    Calls Try.prog 4 #[.slice a0 len0 cap0, .int .i64 a1] w fun e w' => e = .returned (.bool true) ∧ Below w.heap.size w w' := by
  by_cases hbig : 1048576 < len0
  · go_enter Try.func4, Try.ntmps4
    go_wp2
    go_ret
    exact ⟨rfl, Below.refl _ _⟩
  · have hm : len0 ≤ 1048576 := by omega
    have hlen := w0.length
    have hrng := w0.range
    have HB := toByteS_any a0 len0 cap0 z0
    have Hrow : Hid (IsRow .u8 w a0 len0 cap0 z0) := w0
    clear w0
    go_enter Try.func4, Try.ntmps4
    go_wp2_with fail
    refine (HB w Hrow.out hm).mono ?_
    rintro e wa ⟨rfl, owna, bela⟩
    have Hrowa : Hid (IsRow .u8 wa a0 len0 cap0 z0) := Hrow.out.later bela
    have hS := specGetText_any w.heap.size 0 len0 len0 a1 (z0.take len0) wa hlen (by omega) (Nat.le_refl _) (by omega) (own_cells owna) hrng
    obtain ⟨r, hr⟩ : ∃ r, getText (z0.take len0) a1 = r := ⟨_, rfl⟩
    rw [hr] at hS
    have Hr : Hid (getText (z0.take len0) a1 = r) := hr
    clear hr
    obtain ⟨r0, r1, r2⟩ := r
    obtain ⟨S, hs⟩ : ∃ S, strOfNums r0 = S := ⟨_, rfl⟩
    have HS : Hid (strOfNums r0 = S) := hs
    simp only [threeT, hs] at hS
    clear hs
    go_wp2_with fail
    refine hS.mono ?_
    clear hS owna
    rintro e wb ⟨rfl, rfl⟩
    go_wp2_with fail
    refine (HB wb Hrowa.out hm).mono ?_
    rintro e wc ⟨rfl, ownc, belc⟩
    have Hrowc : Hid (IsRow .u8 wc a0 len0 cap0 z0) := Hrowa.out.later belc
    have hI := implGetText_any wb.heap.size 0 len0 len0 a1 (z0.take len0) wc hlen (by omega) (Nat.le_refl _) (by omega) (own_cells ownc) hrng
    rw [Hr.out] at hI
    simp only [threeT, HS.out] at hI
    go_wp2_with fail
    refine hI.mono ?_
    clear hI
    rintro e wd ⟨rfl, rfl⟩
    go_wp2_with fail
    refine (HB wd Hrowc.out hm).mono ?_
    rintro e we ⟨rfl, owne, bele⟩
    have hE := eqByteS_same wb.heap.size 0 len0 wd.heap.size 0 len0 len0 (z0.take len0) we (by omega) (fun i hi => cell_later bele (own_cells ownc i hi)) (own_cells owne)
    go_wp2_with fail
    refine hE.mono ?_
    clear hE
    rintro e wf ⟨rfl, q, rfl⟩
    go_wp2
    go_ret
    exact ⟨rfl, below_drewN ((bela.trans (belc.mono bela.size)).trans (bele.mono (Nat.le_trans bela.size belc.size))) q⟩

/-! ### THE ROW's STEP: WRITTEN OUT: LEAVE IT -/
set_option maxRecDepth 100000 in
theorem lifted (os : Os) (started : os.Started) (H : Type) (enc : TypeId × Value → H) :
    ReturnsInHanded {} Try.checked os 4 .any (Rows.fnExactGetTextSpec.pre6 enc Try.prog Try.f4 Rows.fnExactGetTextRow.domain false) (Rows.fnExactGetTextSpec.post enc Try.prog Try.f4 false true false false) := by
  refine returnsInHanded_of_change (C := Try.checked) own started (by kernel_rfl) Try.func4
    (ChangeSpec.witness6 (enc := enc) (C := Try.checked) false ⟨#[], #[.slice none 0 0, .int .i64 0], []⟩ 8 (by kernel_rfl) (by kernel_rfl) (by kernel_rfl) (by kernel_rfl)) ?_
  intro W base args ds gs before hval0 hW hcnd _
  have hval : ∀ (j : Nat) t v, Try.f4.params[j]? = some t → args[j]? = some v → Value.okWide Try.prog W .any base t v := hval0
  have hW' := hW
  obtain ⟨p, q, hA0, hV, rfl, hfz, hnd⟩ := hW
  have hA : DataW.TrodAll enc Try.prog W 0 (fun _ => true) true Try.f4.params.toList args.toList ds p := hA0
  rw [Try.params4] at hA hval
  obtain ⟨v0, vs0, d0, ds0, p0, q0, hargs, rfl, rfl, h0, r0⟩ := trodAll_cons hA
  obtain ⟨v1, vs1, d1, ds1, p1, q1, rfl, rfl, rfl, h1, r1⟩ := trodAll_cons r0
  obtain ⟨rfl, rfl, rfl⟩ := trodAll_nil r1
  obtain rfl : args = #[v0, v1] := by cases args; simp_all
  obtain ⟨rfl, rfl⟩ := trodVars_none hV
  obtain ⟨a0, len0, cap0, rfl⟩ := okWide_slice Try.underlying22 (hval 0 22 v0 rfl rfl)
  have k0 := h0
  have lt0 : ∀ x ∈ p0, x.block < W.heap.size := by obtain ⟨m, hm⟩ := k0; exact DataW.trod_lt m _ _ _ hm
  obtain ⟨z0, w0⟩ : ∃ zs, IsRow .u8 W a0 len0 cap0 zs := by
    obtain ⟨fuel, hf⟩ := h0
    rcases open_ints Try.underlying22 Try.underlying5 (by kernel_rfl) hf with ⟨hcs, _⟩ | ⟨x, l, c, zs, hcs, _, hl, hm, hz, _, hcell, hwz⟩
    · simp [Value.cells] at hcs
      obtain ⟨rfl, rfl, rfl⟩ := hcs
      exact ⟨[], .inl ⟨rfl, rfl, rfl, rfl⟩⟩
    · simp [Value.cells] at hcs
      obtain ⟨rfl, rfl, rfl⟩ := hcs
      exact ⟨zs, .inr ⟨_, rfl, hl, hm, by simpa using hz, hcell, hwz⟩⟩
  obtain ⟨a1, rfl, rfl, rfl, w1⟩ := open_int Try.underlying3 (hval 1 3 v1 rfl rfl) h1
  clear hA0 hval0
  refine (walk a0 len0 cap0 z0 a1 W w0 w1).mono fun e W' ⟨he, bel⟩ => ?_
  subst he
  exact ⟨_, rfl, _, _, _, [], _, [], hW', trodAll_mk1 (shut_bool Try.underlying4 _), (trodAll_cons_mk (Below.trod laidOut (by kernel_rfl) (of_decide_eq_true (by kernel_rfl)) k0 bel lt0) (trodAll_cons_mk (shut_int Try.underlying3 w1) trodAll_mk0)), rfl, bel.frame _, fun h => by cases h⟩

theorem over : Rows.fnExactGetTextRow.holds Try.pinned (OpenSpec.ofChange Rows.fnExactGetTextSpec) :=
  OpenClaim.holds_of_wide 4 Try.f4 rfl rfl rfl rfl rfl rfl rfl ⟨rfl, rfl, rfl, rfl, rfl⟩ rfl rfl rfl rfl rfl (by kernel_rfl) Try.func4 (by kernel_rfl)
    (of_decide_eq_true (by kernel_rfl)) (by unfold Func.isWrapper; first | (rw [if_pos (by decide +kernel)]; kernel_rfl) | (rw [if_neg (by decide +kernel)]; exact ⟨rfl, rfl⟩))
    (fun os started H enc _ => lifted os started H enc)

end Go.Proofs.Ytallldandbeimal.fnExactGetText
namespace Go.Proofs.Ytallldandbeimal
/-- THE STATEMENT. -/
theorem getText_holds : Rows.FnExactGetTextSaid := fnExactGetText.over
#print axioms getText_holds
end Go.Proofs.Ytallldandbeimal
