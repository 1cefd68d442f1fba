/- A worker is right: at every worker the program answers as the model, and writes into nothing. (The frame round the walk is the guide's own way.) -/
import Derived.Test.YtfachfimdenapaaWo1
import Derived.Test.YtfachfimdenapaaDtWorker
import Derived.Test.YtfachfimdenapaaXRead0
import Derived.WalkKit
import Derived.ProofKit
import Derived.OpenShut
import Derived.ShutString
import Derived.ChangeOld
import Derived.Below
namespace Go.Proofs.Ytfachfimdenapaa.fnExactWorkerOk
open Go.ChangeShapes Go.WideShapes Go.ChangeAt Go.RowKit
open Go.ChangeMaps (open_string shut_string)
set_option linter.unusedVariables false

theorem own : ownKnob Try.prog.godebug = none := by kernel_rfl
theorem laidOut : laidOutB Try.prog = true := by kernel_rfl

set_option maxRecDepth 100000 in
set_option maxHeartbeats 8000000 in
theorem walk (d : Nat) (w : World) (vs0 : List Value) (x0 : DWorker d) (r0 : WorkerR d w vs0 x0) (f0 : WfWorker d x0) :
    Calls Try.prog 3 #[.agg vs0.toArray] w fun e w' => e = .returned (.bool true) ∧ Below w.heap.size w w' := by
  obtain ⟨pi0, ps1, ps2, pi3, pi4, pi5, ps6, pa7, pl7, pc7, pa8, pl8, pc8, rfl⟩ := WorkerR.shape d _ _ _ r0
  have HR : Hid (∀ V : World, Below w.heap.size w V → WorkerR d V [.int .i64 pi0, .string ps1, .string ps2, .int .i64 pi3, .int .i64 pi4, .int .i64 pi5, .string ps6, .slice pa7 pl7 pc7, .slice pa8 pl8 pc8] x0) := fun V hV => WorkerR.lasts d _ _ _ _ r0 hV
  have HF : Hid (WfWorker d x0) := f0
  have HSH : Hid (∀ (V : World) (vs : List Value) (fp : List Nat), WorkerO d V vs x0 fp → ShWorker vs) := fun V vs fp h => WorkerO.shape d V vs x0 fp h
  obtain ⟨W0, hW0⟩ : ∃ W, W = w.alloc (.cells #[.int .i64 pi0, .string ps1, .string ps2, .int .i64 pi3, .int .i64 pi4, .int .i64 pi5, .string ps6, .slice pa7 pl7 pc7, .slice pa8 pl8 pc8] 26) := ⟨_, rfl⟩
  have bel0 : Below w.heap.size w W0 := by rw [hW0]; exact (Below.refl _ _).alloc (Nat.le_refl _) _
  have box0 : W0.heap[w.heap.size]? = some (.cells #[.int .i64 pi0, .string ps1, .string ps2, .int .i64 pi3, .int .i64 pi4, .int .i64 pi5, .string ps6, .slice pa7 pl7 pc7, .slice pa8 pl8 pc8] 26 (0, 0)) := by rw [hW0]; exact heap_alloc_new w _
  have hC := szWorker_any d [.int .i64 pi0, .string ps1, .string ps2, .int .i64 pi3, .int .i64 pi4, .int .i64 pi5, .string ps6, .slice pa7 pl7 pc7, .slice pa8 pl8 pc8] x0 1048576 W0 (HR.out W0 bel0) HF.out (by omega) (by omega)
  rw [hW0] at hC
  have HW0 : Hid (W0 = _) := hW0
  have hmx : maxLen ≤ 9223372036854775807 := by decide
  clear r0 f0 hW0
  go_enter Try.func3, Try.ntmps3
  go_wp2_with fail
  refine hC.mono ?_
  clear hC
  rintro e wa ⟨rfl, bela⟩
  rw [← HW0.out] at bela
  have boxa := (bela.block _ (lt_row box0)).trans box0
  have belA : Below w.heap.size w wa := bel0.trans (bela.mono bel0.size)
  clear bel0 bela box0 HW0
  by_cases hz : szWorkerD d x0 ≤ 1048576
  case neg =>
    have hl : lft 1048576 (szWorkerD d x0) = -1 := by unfold lft; rw [if_neg (by omega)]
    rw [hl]
    clear hz hl boxa
    go_wp2_with fail
    go_ret
    exact ⟨rfl, belA⟩
  obtain ⟨x, hx, hxp⟩ : ∃ x : Int, lft 1048576 (szWorkerD d x0) = x ∧ 0 ≤ x := ⟨_, rfl, by unfold lft; rw [if_pos (by omega)]; omega⟩
  rw [hx]
  have HZ : Hid (szWorkerD d x0 ≤ 1048576) := hz
  clear hz hx
  have HTO : Hid (∀ V : World, Below w.heap.size w V → _) := fun V hV => toWorker_any d [.int .i64 pi0, .string ps1, .string ps2, .int .i64 pi3, .int .i64 pi4, .int .i64 pi5, .string ps6, .slice pa7 pl7 pc7, .slice pa8 pl8 pc8] x0 V (HR.out V hV) HF.out HZ.out
  have b0 : wa.cell? ⟨w.heap.size, 0, none⟩ = some (.int .i64 pi0) := by rw [cell_of_row wa _ 0 _ _ _ boxa]; rfl
  have b1 : wa.cell? ⟨w.heap.size, 1, none⟩ = some (.string ps1) := by rw [cell_of_row wa _ 1 _ _ _ boxa]; rfl
  have b2 : wa.cell? ⟨w.heap.size, 2, none⟩ = some (.string ps2) := by rw [cell_of_row wa _ 2 _ _ _ boxa]; rfl
  have b3 : wa.cell? ⟨w.heap.size, 3, none⟩ = some (.int .i64 pi3) := by rw [cell_of_row wa _ 3 _ _ _ boxa]; rfl
  have b4 : wa.cell? ⟨w.heap.size, 4, none⟩ = some (.int .i64 pi4) := by rw [cell_of_row wa _ 4 _ _ _ boxa]; rfl
  have b5 : wa.cell? ⟨w.heap.size, 5, none⟩ = some (.int .i64 pi5) := by rw [cell_of_row wa _ 5 _ _ _ boxa]; rfl
  have b6 : wa.cell? ⟨w.heap.size, 6, none⟩ = some (.string ps6) := by rw [cell_of_row wa _ 6 _ _ _ boxa]; rfl
  have b7 : wa.cell? ⟨w.heap.size, 7, none⟩ = some (.slice pa7 pl7 pc7) := by rw [cell_of_row wa _ 7 _ _ _ boxa]; rfl
  have b8 : wa.cell? ⟨w.heap.size, 8, none⟩ = some (.slice pa8 pl8 pc8) := by rw [cell_of_row wa _ 8 _ _ _ boxa]; rfl
  go_wp2_with fail
  refine (HTO.out wa belA).mono ?_
  rintro e wb ⟨vs1, fp1, rfl, own1, fr1, belb⟩
  obtain ⟨qi0, qs1, qs2, qi3, qi4, qi5, qs6, qa7, ql7, qc7, qa8, ql8, qc8, rfl⟩ := HSH.out _ _ _ own1
  clear b0 b1 b2 b3 b4 b5 b6 b7 b8
  have boxb := (belb.block _ (lt_row boxa)).trans boxa
  have belB : Below w.heap.size w wb := belA.trans (belb.mono belA.size)
  have hC := specWorkerOk_any d [.int .i64 qi0, .string qs1, .string qs2, .int .i64 qi3, .int .i64 qi4, .int .i64 qi5, .string qs6, .slice qa7 ql7 qc7, .slice qa8 ql8 qc8] x0  wb (WorkerO.reads d _ _ _ _ own1) HF.out HZ.out  
  clear own1 fr1 belb boxa belA
  go_wp2_with fail
  refine hC.mono ?_
  clear hC
  rintro e wcc ⟨g1, rfl, hg1, belc⟩
  have HG1 : Hid (_ ↔ _) := hg1
  clear hg1
  have boxc := (belc.block _ (lt_row boxb)).trans boxb
  have belC : Below w.heap.size w wcc := belB.trans (belc.mono belB.size)
  clear belc boxb belB
  have b0 : wcc.cell? ⟨w.heap.size, 0, none⟩ = some (.int .i64 pi0) := by rw [cell_of_row wcc _ 0 _ _ _ boxc]; rfl
  have b1 : wcc.cell? ⟨w.heap.size, 1, none⟩ = some (.string ps1) := by rw [cell_of_row wcc _ 1 _ _ _ boxc]; rfl
  have b2 : wcc.cell? ⟨w.heap.size, 2, none⟩ = some (.string ps2) := by rw [cell_of_row wcc _ 2 _ _ _ boxc]; rfl
  have b3 : wcc.cell? ⟨w.heap.size, 3, none⟩ = some (.int .i64 pi3) := by rw [cell_of_row wcc _ 3 _ _ _ boxc]; rfl
  have b4 : wcc.cell? ⟨w.heap.size, 4, none⟩ = some (.int .i64 pi4) := by rw [cell_of_row wcc _ 4 _ _ _ boxc]; rfl
  have b5 : wcc.cell? ⟨w.heap.size, 5, none⟩ = some (.int .i64 pi5) := by rw [cell_of_row wcc _ 5 _ _ _ boxc]; rfl
  have b6 : wcc.cell? ⟨w.heap.size, 6, none⟩ = some (.string ps6) := by rw [cell_of_row wcc _ 6 _ _ _ boxc]; rfl
  have b7 : wcc.cell? ⟨w.heap.size, 7, none⟩ = some (.slice pa7 pl7 pc7) := by rw [cell_of_row wcc _ 7 _ _ _ boxc]; rfl
  have b8 : wcc.cell? ⟨w.heap.size, 8, none⟩ = some (.slice pa8 pl8 pc8) := by rw [cell_of_row wcc _ 8 _ _ _ boxc]; rfl
  go_wp2_with fail
  refine (HTO.out wcc belC).mono ?_
  rintro e wd ⟨vs2, fp2, rfl, own2, fr2, beld⟩
  obtain ⟨ri0, rs1, rs2, ri3, ri4, ri5, rs6, ra7, rl7, rc7, ra8, rl8, rc8, rfl⟩ := HSH.out _ _ _ own2
  clear b0 b1 b2 b3 b4 b5 b6 b7 b8
  obtain ⟨we, hwe⟩ : ∃ we, we = wd.alloc (.cells #[.int .i64 ri0, .string rs1, .string rs2, .int .i64 ri3, .int .i64 ri4, .int .i64 ri5, .string rs6, .slice ra7 rl7 rc7, .slice ra8 rl8 rc8] 33) := ⟨_, rfl⟩
  have bele : Below wd.heap.size wd we := by rw [hwe]; exact (Below.refl _ _).alloc (Nat.le_refl _) _
  have hxe : we.heap[wd.heap.size]? = some (.cells #[.int .i64 ri0, .string rs1, .string rs2, .int .i64 ri3, .int .i64 ri4, .int .i64 ri5, .string rs6, .slice ra7 rl7 rc7, .slice ra8 rl8 rc8] 33 (0, 0)) := by rw [hwe]; exact heap_alloc_new wd _
  have belce : Below wcc.heap.size wcc we := beld.trans (bele.mono beld.size)
  have boxe := (belce.block _ (lt_row boxc)).trans boxc
  have belE : Below w.heap.size w we := belC.trans (belce.mono belC.size)
  have HOE : Hid (∀ V : World, Below we.heap.size we V → WorkerO d V [.int .i64 ri0, .string rs1, .string rs2, .int .i64 ri3, .int .i64 ri4, .int .i64 ri5, .string rs6, .slice ra7 rl7 rc7, .slice ra8 rl8 rc8] x0 fp2) := fun V hV => WorkerO.lasts d _ _ _ _ _ own2 fun g hg => (hV.block g (Nat.lt_of_lt_of_le (fr2.2 g hg).2 bele.size)).trans (bele.block g (fr2.2 g hg).2)
  have hC := implWorkerOk_any d [.int .i64 ri0, .string rs1, .string rs2, .int .i64 ri3, .int .i64 ri4, .int .i64 ri5, .string rs6, .slice ra7 rl7 rc7, .slice ra8 rl8 rc8] x0  we (WorkerO.reads d _ _ _ _ (HOE.out we (Below.refl _ _))) HF.out HZ.out  
  rw [hwe] at hC
  have HWE : Hid (we = _) := hwe
  clear hwe own2 fr2 beld bele belce boxc belC
  go_wp2_with fail
  refine hC.mono ?_
  clear hC
  rintro e wg ⟨g2, rfl, hg2, belg⟩
  have hgg : g1 = g2 := by
    have h1 := HG1.out
    cases g1 <;> cases g2
    · rfl
    · exact h1.2 (hg2.1 rfl)
    · exact (hg2.2 (h1.1 rfl)).symm
    · rfl
  subst hgg
  clear hg2
  rw [← HWE.out] at belg
  have hxg := (belg.block _ (lt_row hxe)).trans hxe
  have HBG : Hid (Below we.heap.size we wg) := belg
  have hboxg := (belg.block _ (lt_row boxe)).trans boxe
  have HSG : Hid (Below w.heap.size w wg) := belE.trans (belg.mono belE.size)
  have b0 : wg.cell? ⟨w.heap.size, 0, none⟩ = some (.int .i64 pi0) := by rw [cell_of_row wg _ 0 _ _ _ hboxg]; rfl
  have d0 : wg.cell? ⟨wd.heap.size, 0, none⟩ = some (.int .i64 ri0) := by rw [cell_of_row wg _ 0 _ _ _ hxg]; rfl
  have b1 : wg.cell? ⟨w.heap.size, 1, none⟩ = some (.string ps1) := by rw [cell_of_row wg _ 1 _ _ _ hboxg]; rfl
  have d1 : wg.cell? ⟨wd.heap.size, 1, none⟩ = some (.string rs1) := by rw [cell_of_row wg _ 1 _ _ _ hxg]; rfl
  have b2 : wg.cell? ⟨w.heap.size, 2, none⟩ = some (.string ps2) := by rw [cell_of_row wg _ 2 _ _ _ hboxg]; rfl
  have d2 : wg.cell? ⟨wd.heap.size, 2, none⟩ = some (.string rs2) := by rw [cell_of_row wg _ 2 _ _ _ hxg]; rfl
  have b3 : wg.cell? ⟨w.heap.size, 3, none⟩ = some (.int .i64 pi3) := by rw [cell_of_row wg _ 3 _ _ _ hboxg]; rfl
  have d3 : wg.cell? ⟨wd.heap.size, 3, none⟩ = some (.int .i64 ri3) := by rw [cell_of_row wg _ 3 _ _ _ hxg]; rfl
  have b4 : wg.cell? ⟨w.heap.size, 4, none⟩ = some (.int .i64 pi4) := by rw [cell_of_row wg _ 4 _ _ _ hboxg]; rfl
  have d4 : wg.cell? ⟨wd.heap.size, 4, none⟩ = some (.int .i64 ri4) := by rw [cell_of_row wg _ 4 _ _ _ hxg]; rfl
  have b5 : wg.cell? ⟨w.heap.size, 5, none⟩ = some (.int .i64 pi5) := by rw [cell_of_row wg _ 5 _ _ _ hboxg]; rfl
  have d5 : wg.cell? ⟨wd.heap.size, 5, none⟩ = some (.int .i64 ri5) := by rw [cell_of_row wg _ 5 _ _ _ hxg]; rfl
  have b6 : wg.cell? ⟨w.heap.size, 6, none⟩ = some (.string ps6) := by rw [cell_of_row wg _ 6 _ _ _ hboxg]; rfl
  have d6 : wg.cell? ⟨wd.heap.size, 6, none⟩ = some (.string rs6) := by rw [cell_of_row wg _ 6 _ _ _ hxg]; rfl
  have b7 : wg.cell? ⟨w.heap.size, 7, none⟩ = some (.slice pa7 pl7 pc7) := by rw [cell_of_row wg _ 7 _ _ _ hboxg]; rfl
  have d7 : wg.cell? ⟨wd.heap.size, 7, none⟩ = some (.slice ra7 rl7 rc7) := by rw [cell_of_row wg _ 7 _ _ _ hxg]; rfl
  have b8 : wg.cell? ⟨w.heap.size, 8, none⟩ = some (.slice pa8 pl8 pc8) := by rw [cell_of_row wg _ 8 _ _ _ hboxg]; rfl
  have d8 : wg.cell? ⟨wd.heap.size, 8, none⟩ = some (.slice ra8 rl8 rc8) := by rw [cell_of_row wg _ 8 _ _ _ hxg]; rfl
  clear belg hxe boxe belE HG1 hxg hboxg
  have HTG : Hid (∀ V0 : World, Below wg.heap.size wg V0 → Calls Try.prog 8 #[.agg #[.int .i64 pi0, .string ps1, .string ps2, .int .i64 pi3, .int .i64 pi4, .int .i64 pi5, .string ps6, .slice pa7 pl7 pc7, .slice pa8 pl8 pc8]] V0 fun e V => ∃ (si0 : Int) (ss1 : ByteArray) (ss2 : ByteArray) (si3 : Int) (si4 : Int) (si5 : Int) (ss6 : ByteArray) (sa7 : Option Addr) (sl7 sc7 : Nat) (sa8 : Option Addr) (sl8 sc8 : Nat), e = .returned (.agg #[.int .i64 si0, .string ss1, .string ss2, .int .i64 si3, .int .i64 si4, .int .i64 si5, .string ss6, .slice sa7 sl7 sc7, .slice sa8 sl8 sc8]) ∧ Hid (WorkerR d V [.int .i64 si0, .string ss1, .string ss2, .int .i64 si3, .int .i64 si4, .int .i64 si5, .string ss6, .slice sa7 sl7 sc7, .slice sa8 sl8 sc8] x0) ∧ Below wg.heap.size wg V) := fun V0 hX => by
    refine (HTO.out V0 (HSG.out.trans (hX.mono HSG.out.size))).mono ?_
    rintro e V ⟨vs3, fp3, rfl, own3, _, hB⟩
    obtain ⟨si0, ss1, ss2, si3, si4, si5, ss6, sa7, sl7, sc7, sa8, sl8, sc8, rfl⟩ := HSH.out _ _ _ own3
    exact ⟨si0, ss1, ss2, si3, si4, si5, ss6, sa7, sl7, sc7, sa8, sl8, sc8, rfl, WorkerO.reads d _ _ _ _ own3, hX.trans (hB.mono hX.size)⟩
  have HEX : Hid (∀ (V : World) (si0 : Int) (ss1 : ByteArray) (ss2 : ByteArray) (si3 : Int) (si4 : Int) (si5 : Int) (ss6 : ByteArray) (sa7 : Option Addr) (sl7 sc7 : Nat) (sa8 : Option Addr) (sl8 sc8 : Nat), Below wg.heap.size wg V → WorkerR d V [.int .i64 si0, .string ss1, .string ss2, .int .i64 si3, .int .i64 si4, .int .i64 si5, .string ss6, .slice sa7 sl7 sc7, .slice sa8 sl8 sc8] x0 → _) := fun V si0 ss1 ss2 si3 si4 si5 ss6 sa7 sl7 sc7 sa8 sl8 sc8 hV h => eqWorker_any d [.int .i64 ri0, .string rs1, .string rs2, .int .i64 ri3, .int .i64 ri4, .int .i64 ri5, .string rs6, .slice ra7 rl7 rc7, .slice ra8 rl8 rc8] [.int .i64 si0, .string ss1, .string ss2, .int .i64 si3, .int .i64 si4, .int .i64 si5, .string ss6, .slice sa7 sl7 sc7, .slice sa8 sl8 sc8] x0 V (WorkerO.reads d _ _ _ _ (HOE.out V (HBG.out.trans (hV.mono HBG.out.size)))) h HF.out
  have hlst : Below wg.heap.size wg wg.drew := (Below.refl _ _).drew
  have hbb : (g1 == g1) = true := by cases g1 <;> rfl
  have hbn : (g1 != g1) = false := by simp
  go_wp2_with fail
  go_region_with (first | (go_at_call 8; refine (HTG.out _ hlst).mono ?_; rintro e V ⟨si0, ss1, ss2, si3, si4, si5, ss6, sa7, sl7, sc7, sa8, sl8, sc8, rfl, HR3, hB⟩; have e0 := cell_later hB d0; have e1 := cell_later hB d1; have e2 := cell_later hB d2; have e3 := cell_later hB d3; have e4 := cell_later hB d4; have e5 := cell_later hB d5; have e6 := cell_later hB d6; have e7 := cell_later hB d7; have e8 := cell_later hB d8) | (go_at_call 10; refine (HEX.out V si0 ss1 ss2 si3 si4 si5 ss6 sa7 sl7 sc7 sa8 sl8 sc8 hB HR3.out).mono ?_; rintro e V2 ⟨rfl, hB2⟩))
  all_goals
    have hbf : Below w.heap.size w V2 := HSG.out.trans ((hB.trans (hB2.mono hB.size)).mono HSG.out.size)
    clear hB hB2
    go_wp2_with fail
    go_ret
    exact ⟨rfl, hbf⟩

set_option maxRecDepth 100000 in
theorem lifted (os : Os) (started : os.Started) (H : Type) (enc : TypeId × Value → H) :
    ReturnsInHanded {} Try.checked os 3 .any (Rows.fnExactWorkerOkSpec.pre6 enc Try.prog Try.f3 Rows.fnExactWorkerOkRow.domain false) (Rows.fnExactWorkerOkSpec.post enc Try.prog Try.f3 false true false false) := by
  refine returnsInHanded_of_change (C := Try.checked) own started (by kernel_rfl) Try.func3
    (ChangeSpec.witness6 (enc := enc) (C := Try.checked) false ⟨#[], #[.agg #[.int .i64 0, .string ⟨#[]⟩, .string ⟨#[]⟩, .int .i64 0, .int .i64 0, .int .i64 0, .string ⟨#[]⟩, .slice none 0 0, .slice none 0 0]], []⟩ 8 (by kernel_rfl) (by kernel_rfl) (by kernel_rfl) (by kernel_rfl)) ?_
  intro W base args ds gs before hval0 hW hcnd _
  have hval : ∀ (j : Nat) t v, Try.f3.params[j]? = some t → args[j]? = some v → Value.okWide Try.prog W .any base t v := hval0
  have hW' := hW
  obtain ⟨p, q, hA0, hV, rfl, hfz, hnd⟩ := hW
  have hA : DataW.TrodAll enc Try.prog W 0 (fun _ => true) true Try.f3.params.toList args.toList ds p := hA0
  rw [Try.params3] at hA hval
  obtain ⟨v0, vs0, d0, ds0, p0, q0, hargs, rfl, rfl, h0, rr0⟩ := trodAll_cons hA
  obtain ⟨rfl, rfl, rfl⟩ := trodAll_nil rr0
  obtain rfl : args = #[v0] := by cases args; simp_all
  obtain ⟨rfl, rfl⟩ := trodVars_none hV
  have kk0 := h0
  have lt0 : ∀ x ∈ p0, x.block < W.heap.size := by obtain ⟨m, hm⟩ := kk0; exact DataW.trod_lt m _ _ _ hm
  obtain ⟨M0, R0⟩ := read_Worker (hval 0 26 v0 rfl rfl) h0
  obtain ⟨d, hd⟩ : ∃ d, d = M0 := ⟨_, rfl⟩
  obtain ⟨vs0, x0, rfl, r0, f0⟩ := R0 d (by omega)
  clear hA0 hval0
  refine (walk d W vs0 x0 r0 f0).mono fun e W' ⟨he, bel⟩ => ?_
  subst he
  exact ⟨_, rfl, _, _, _, [], _, [], hW', trodAll_mk1 (shut_bool Try.underlying4 _), (trodAll_cons_mk (Below.trod laidOut (by kernel_rfl) (of_decide_eq_true (by kernel_rfl)) kk0 bel lt0) trodAll_mk0), rfl, bel.frame _, fun h => by cases h⟩

theorem over : Rows.fnExactWorkerOkRow.holds Try.pinned (OpenSpec.ofChange Rows.fnExactWorkerOkSpec) :=
  OpenClaim.holds_of_wide 3 Try.f3 rfl rfl rfl rfl rfl rfl rfl ⟨rfl, rfl, rfl, rfl, rfl⟩ rfl rfl rfl rfl rfl (by kernel_rfl) Try.func3 (by kernel_rfl)
    (of_decide_eq_true (by kernel_rfl)) (by unfold Func.isWrapper; first | (rw [if_pos (by decide +kernel)]; kernel_rfl) | (rw [if_neg (by decide +kernel)]; exact ⟨rfl, rfl⟩))
    (fun os started H enc _ => lifted os started H enc)

end Go.Proofs.Ytfachfimdenapaa.fnExactWorkerOk
namespace Go.Proofs.Ytfachfimdenapaa
/-- THE STATEMENT. -/
theorem fnExactWorkerOk_said : Rows.FnExactWorkerOkSaid := fnExactWorkerOk.over
#print axioms fnExactWorkerOk_said
end Go.Proofs.Ytfachfimdenapaa
