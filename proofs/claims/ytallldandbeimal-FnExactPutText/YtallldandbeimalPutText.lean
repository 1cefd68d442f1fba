/- At every row of bytes and every text the program's PutText answers as the model's, byte for byte, writes nothing into its argument, and its answer owns its memory; no condition. (The frame round the walk is the guide's, by its own program.) -/
import Derived.Test.YtallldandbeimalTPut
import Derived.WalkKit
import Derived.ProofKit
import Derived.OpenShut
import Derived.ShutString
import Derived.ChangeOld
import Derived.Below
namespace Go.Proofs.Ytallldandbeimal.fnExactPutText
open Go.ChangeShapes Go.WideShapes Go.ChangeAt Go.RowKit
open Go.ChangeMaps (open_string shut_string)
set_option linter.unusedVariables false

theorem own : ownKnob Try.prog.godebug = none := by kernel_rfl
theorem laidOut : laidOutB Try.prog = true := by kernel_rfl

/-! ### STEP 1: THE WALK: the Go text returns true, AND WRITES NOTHING THAT WAS THERE: 'Below w.heap.size w w'' (Derived/Below.lean: '.refl', '.alloc', '.drew', '.setCell' at a new block, '.trans'). Open each 'IsRow' by 'rcases' AHEAD of 'go_enter'; part every test ahead of the walk. -/
set_option maxHeartbeats 1000000 in
theorem walk (a0 : Option Addr) (len0 cap0 : Nat) (z0 : List Int) (a1 : ByteArray) (w : World) (w0 : IsRow .u8 w a0 len0 cap0 z0) (w1 : a1.size ≤ maxLen) :
    Calls Try.prog 3 #[.slice a0 len0 cap0, .string a1] w fun e w' => e = .returned (.bool true) ∧ Below w.heap.size w w' := by
  by_cases hbig : 1048576 < len0
  · go_enter Try.func3, Try.ntmps3
    go_wp2
    go_ret
    exact ⟨rfl, Below.refl _ _⟩
  by_cases hbig2 : 1048576 < a1.size
  · go_enter Try.func3, Try.ntmps3
    go_wp2
    go_ret
    exact ⟨rfl, Below.refl _ _⟩
  · have hm : len0 ≤ 1048576 := by omega
    have hm1 : a1.size ≤ 1048576 := by omega
    have hlen := w0.length
    have hrng := w0.range
    have HB := toByteS_any a0 len0 cap0 z0
    have Hrow : Hid (IsRow .u8 w a0 len0 cap0 z0) := w0
    clear w0 w1
    obtain ⟨zs, hzs⟩ : ∃ zs, z0.take len0 = zs := ⟨_, rfl⟩
    rw [hzs] at hlen hrng HB
    have hmem : ∀ x ∈ zs, 0 ≤ x ∧ x ≤ 255 := fun x hx => by
      obtain ⟨j, hj, rfl⟩ := List.getElem_of_mem hx
      have := hrng j
      rwa [List.getElem?_eq_getElem hj, Option.getD_some] at this
    have hmx : len0 ≤ maxLen := by unfold maxLen; omega
    obtain ⟨ys, hys⟩ : ∃ ys, zs ++ put a1 = ys := ⟨_, rfl⟩
    obtain ⟨L, hL⟩ : ∃ L, ys.length = L := ⟨_, rfl⟩
    have hLb : L ≤ 2097158 := by
      have := enc_len6 (code a1.size) (by have := code_bd a1.size; omega)
      have := nums_length a1
      rw [← hL, ← hys, List.length_append, put, List.length_append]; omega
    have HYS : Hid (zs ++ put a1 = ys) := hys
    have HYT : Hid (zs.take len0 ++ put a1 = ys) := by rw [List.take_of_length_le (by omega)]; exact hys
    have HL : Hid (ys.length = L) := hL
    clear hys hL hrng hzs
    go_enter Try.func3, Try.ntmps3
    go_wp2_with fail
    refine (HB w Hrow.out hm).mono ?_
    rintro e wa ⟨rfl, owna, bela⟩
    have Hrowa : Hid (IsRow .u8 wa a0 len0 cap0 z0) := Hrow.out.later bela
    go_wp2_with fail
    refine (specPutText_row w.heap.size 0 len0 len0 zs a1 wa hlen (by omega) (own_lt owna) (own_cells owna) (by omega) ys HYS.out L HL.out).mono ?_
    rintro e wb ⟨gs, cs, rfl, hgs, owns, belb⟩
    have Hrowb : Hid (IsRow .u8 wb a0 len0 cap0 z0) := Hrowa.out.later belb
    clear owna
    go_wp2_with fail
    refine (HB wb Hrowb.out hm).mono ?_
    rintro e wc ⟨rfl, ownx, belc⟩
    have Hrowc : Hid (IsRow .u8 wc a0 len0 cap0 z0) := Hrowb.out.later belc
    have ownsc := own_below owns belc
    go_wp2_with fail
    refine (implPutText_row _ len0 len0 zs a1 wc (own_isRow ownx hmem rfl hmx) (by omega) (by omega) ys HYT.out L HL.out).mono ?_
    rintro e wd ⟨gg, cg, rfl, hgg, owng, beld⟩
    have hx1 := own_lt ownx
    have hs1 := own_lt owns
    have ownsd := own_below ownsc beld
    have ownxd := own_below ownx beld
    have Hd : Hid (Below w.heap.size w wd) := (((bela.trans (belb.mono bela.size)).trans (belc.mono (Nat.le_trans bela.size belb.size))).trans (beld.mono (Nat.le_trans bela.size (Nat.le_trans belb.size belc.size))))
    have hsb : w.heap.size ≤ wb.heap.size := Nat.le_trans bela.size belb.size
    have hsd := Hd.out.size
    clear ownx owns ownsc bela belb belc beld Hrowa Hrowb Hrowc
    go_wp2_with fail
    refine (eqByteS_below _ _ gg cg gs cs L ys wd owng ownsd (by omega)).mono ?_
    rintro e we ⟨rfl, bele⟩
    have He : Hid (Below w.heap.size w we) := Hd.out.trans (bele.mono hsd)
    have ownge := own_below owng bele
    have ownse := own_below ownsd bele
    have ownxe := own_below ownxd bele
    clear owng ownsd ownxd bele Hd
    go_wp2_with fail
    refine (HB we (Hrow.out.later He.out) hm).mono ?_
    rintro e wf ⟨rfl, ownt, belf⟩
    have hse := He.out.size
    have Hf : Hid (Below w.heap.size w wf) := He.out.trans (belf.mono hse)
    have owngf := own_below ownge belf
    have ownsf := own_below ownse belf
    have ownxf := own_below ownxe belf
    clear ownge ownse ownxe belf He
    go_wp2_with fail
    refine (eqByteS_below _ _ wb.heap.size len0 we.heap.size len0 len0 zs wf ownxf ownt (by omega)).mono ?_
    rintro e wg ⟨rfl, belg⟩
    have hsf := Hf.out.size
    have Hg : Hid (Below w.heap.size w wg) := Hf.out.trans (belg.mono hsf)
    have owngg := own_below owngf belg
    have ownsg := own_below ownsf belg
    have ownxg := own_below ownxf belg
    clear owngf ownsf ownxf belg Hf ownt
    go_wp2_with fail
    refine (markByteS_any _ wb.heap.size len0 len0 _ wg ownxg (by omega)).mono ?_
    rintro e wh ⟨rfl, ownxh, grh⟩
    have hsg := Hg.out.size
    have Hh : Hid (Below w.heap.size w wh) := Hg.out.grown grh hsg (fun k hk => by cases hk; omega)
    have owngh := own_grown owngg grh (by omega)
    have ownsh := own_grown ownsg grh (by omega)
    clear owngg ownsg ownxg grh Hg ownxh
    go_wp2_with fail
    refine (eqByteS_below _ _ gg cg gs cs L ys wh owngh ownsh (by omega)).mono ?_
    rintro e wi ⟨rfl, beli⟩
    have hsh := Hh.out.size
    have Hi : Hid (Below w.heap.size w wi) := Hh.out.trans (beli.mono hsh)
    have owngi := own_below owngh beli
    have ownsi := own_below ownsh beli
    clear owngh ownsh beli Hh
    go_wp2_with fail
    refine (markByteS_any _ gg L cg _ wi owngi (by omega)).mono ?_
    rintro e wj ⟨rfl, owngj, grj⟩
    have hsi := Hi.out.size
    have Hj : Hid (Below w.heap.size w wj) := Hi.out.grown grj hsi (fun k hk => by cases hk; omega)
    have ownsj := own_grown ownsi grj (by omega)
    clear owngi ownsi grj Hi
    go_wp2_with fail
    refine (heldByteS_any _ gg L cg _ wj owngj (by omega)).mono ?_
    rintro e wj' ⟨rfl, rfl⟩
    go_wp2_with fail
    refine (HB wj' (Hrow.out.later Hj.out) hm).mono ?_
    rintro e wk ⟨rfl, ownt, belk⟩
    have hsj := Hj.out.size
    have Hk : Hid (Below w.heap.size w wk) := Hj.out.trans (belk.mono hsj)
    have owngk := own_below owngj belk
    have ownsk := own_below ownsj belk
    clear owngj ownsj belk Hj
    go_wp2_with fail
    refine (implPutText_row _ len0 len0 zs a1 wk (own_isRow ownt hmem rfl hmx) (by omega) (by omega) ys HYT.out L HL.out).mono ?_
    rintro e wl ⟨gh, ch, rfl, hgh, ownh, bell⟩
    have hsk := Hk.out.size
    have Hl : Hid (Below w.heap.size w wl) := Hk.out.trans (bell.mono hsk)
    have owngl := own_below owngk bell
    have ownsl := own_below ownsk bell
    clear owngk ownsk bell Hk ownt
    go_wp2_with fail
    refine (eqByteS_below _ _ gh ch gs cs L ys wl ownh ownsl (by omega)).mono ?_
    rintro e wm ⟨rfl, belm⟩
    have hsl := Hl.out.size
    have Hm : Hid (Below w.heap.size w wm) := Hl.out.trans (belm.mono hsl)
    have owngm := own_below owngl belm
    clear owngl ownsl ownh belm Hl
    go_wp2_with fail
    refine (heldByteS_any _ gg L cg _ wm owngm (by omega)).mono ?_
    rintro e wm' ⟨rfl, rfl⟩
    go_wp2
    go_ret
    exact ⟨rfl, Hm.out⟩

/-! ### THE ROW's STEP: WRITTEN OUT: LEAVE IT -/
set_option maxRecDepth 100000 in
theorem lifted (os : Os) (started : os.Started) (H : Type) (enc : TypeId × Value → H) :
    ReturnsInHanded {} Try.checked os 3 .any (Rows.fnExactPutTextSpec.pre6 enc Try.prog Try.f3 Rows.fnExactPutTextRow.domain false) (Rows.fnExactPutTextSpec.post enc Try.prog Try.f3 false true false false) := by
  refine returnsInHanded_of_change (C := Try.checked) own started (by kernel_rfl) Try.func3
    (ChangeSpec.witness6 (enc := enc) (C := Try.checked) false ⟨#[], #[.slice none 0 0, .string ByteArray.empty], []⟩ 8 (by kernel_rfl) (by kernel_rfl) (by kernel_rfl) (by kernel_rfl)) ?_
  intro W base args ds gs before hval0 hW hcnd _
  have hval : ∀ (j : Nat) t v, Try.f3.params[j]? = some t → args[j]? = some v → Value.okWide Try.prog W .any base t v := hval0
  have hW' := hW
  obtain ⟨p, q, hA0, hV, rfl, hfz, hnd⟩ := hW
  have hA : DataW.TrodAll enc Try.prog W 0 (fun _ => true) true Try.f3.params.toList args.toList ds p := hA0
  rw [Try.params3] at hA hval
  obtain ⟨v0, vs0, d0, ds0, p0, q0, hargs, rfl, rfl, h0, r0⟩ := trodAll_cons hA
  obtain ⟨v1, vs1, d1, ds1, p1, q1, rfl, rfl, rfl, h1, r1⟩ := trodAll_cons r0
  obtain ⟨rfl, rfl, rfl⟩ := trodAll_nil r1
  obtain rfl : args = #[v0, v1] := by cases args; simp_all
  obtain ⟨rfl, rfl⟩ := trodVars_none hV
  obtain ⟨a0, len0, cap0, rfl⟩ := okWide_slice Try.underlying22 (hval 0 22 v0 rfl rfl)
  have k0 := h0
  have lt0 : ∀ x ∈ p0, x.block < W.heap.size := by obtain ⟨m, hm⟩ := k0; exact DataW.trod_lt m _ _ _ hm
  obtain ⟨z0, w0⟩ : ∃ zs, IsRow .u8 W a0 len0 cap0 zs := by
    obtain ⟨fuel, hf⟩ := h0
    rcases open_ints Try.underlying22 Try.underlying5 (by kernel_rfl) hf with ⟨hcs, _⟩ | ⟨x, l, c, zs, hcs, _, hl, hm, hz, _, hcell, hwz⟩
    · simp [Value.cells] at hcs
      obtain ⟨rfl, rfl, rfl⟩ := hcs
      exact ⟨[], .inl ⟨rfl, rfl, rfl, rfl⟩⟩
    · simp [Value.cells] at hcs
      obtain ⟨rfl, rfl, rfl⟩ := hcs
      exact ⟨zs, .inr ⟨_, rfl, hl, hm, by simpa using hz, hcell, hwz⟩⟩
  obtain ⟨a1, rfl, rfl, rfl, w1⟩ := open_string Try.underlying9 (hval 1 9 v1 rfl rfl) h1
  clear hA0 hval0
  refine (walk a0 len0 cap0 z0 a1 W w0 w1).mono fun e W' ⟨he, bel⟩ => ?_
  subst he
  exact ⟨_, rfl, _, _, _, [], _, [], hW', trodAll_mk1 (shut_bool Try.underlying4 _), (trodAll_cons_mk (Below.trod laidOut (by kernel_rfl) (of_decide_eq_true (by kernel_rfl)) k0 bel lt0) (trodAll_cons_mk (shut_string Try.underlying9 w1) trodAll_mk0)), rfl, bel.frame _, fun h => by cases h⟩

theorem over : Rows.fnExactPutTextRow.holds Try.pinned (OpenSpec.ofChange Rows.fnExactPutTextSpec) :=
  OpenClaim.holds_of_wide 3 Try.f3 rfl rfl rfl rfl rfl rfl rfl ⟨rfl, rfl, rfl, rfl, rfl⟩ rfl rfl rfl rfl rfl (by kernel_rfl) Try.func3 (by kernel_rfl)
    (of_decide_eq_true (by kernel_rfl)) (by unfold Func.isWrapper; first | (rw [if_pos (by decide +kernel)]; kernel_rfl) | (rw [if_neg (by decide +kernel)]; exact ⟨rfl, rfl⟩))
    (fun os started H enc _ => lifted os started H enc)

end Go.Proofs.Ytallldandbeimal.fnExactPutText
namespace Go.Proofs.Ytallldandbeimal
/-- THE STATEMENT. -/
theorem putText_holds : Rows.FnExactPutTextSaid := fnExactPutText.over
#print axioms putText_holds
end Go.Proofs.Ytallldandbeimal
