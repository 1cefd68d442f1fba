/- BindOf answers as the model at every argument. No condition. (The frame round the walk is the guide's own way.) -/
import Derived.Test.YtjdhkhpdhblhbaaLawBM
import Derived.WalkKit
import Derived.Deep.DeepCutAuto
import Derived.ProofKit
import Derived.OpenShut
import Derived.ShutString
import Derived.ChangeOld
import Derived.Below
namespace Go.Proofs.Ytjdhkhpdhblhbaa.fnExactBindOf
open Go.ChangeShapes Go.WideShapes Go.ChangeAt Go.RowKit
open Go.ChangeMaps (open_string shut_string)
set_option linter.unusedVariables false

theorem own : ownKnob Try.prog.godebug = none := by kernel_rfl
theorem laidOut : laidOutB Try.prog = true := by kernel_rfl

set_option maxRecDepth 100000 in
set_option maxHeartbeats 8000000 in
theorem walk (d : Nat) (w : World) (u0 : Value) (m0 : List (Bn d)) (r0 : RowOf 5 (BnR d) w u0 m0) (f0 : WfRow (WfB d) m0) (a1 : ByteArray) (w1 : a1.size ≤ maxLen) :
    Calls Try.prog 7 #[u0, .string a1] w fun e w' => e = .returned (.bool true) ∧ Below w.heap.size w w' := by
  obtain ⟨a, c, e0⟩ := r0.slice
  obtain ⟨len, hlen⟩ : ∃ l, m0.length = l := ⟨_, rfl⟩
  rw [hlen] at e0
  subst e0
  have HR : Hid (∀ V : World, Below w.heap.size w V → RowOf 5 (BnR d) V (.slice a len c) m0) := fun V hV => r0.later (BnR.lasts d) hV
  have HF : Hid (WfRow (WfB d) m0) := f0
  have hC := szBindS_any d _ m0 1048576 w r0 f0 (by omega) (by omega)
  have hmx : maxLen ≤ 9223372036854775807 := by decide
  by_cases hnm : a1.size ≤ 1048576
  case neg =>
    have hnm' : (1048576 : Int) < (a1.size : Int) := by omega
    clear hC r0 f0 HR HF hnm
    go_enter Try.func7, Try.ntmps7
    go_wp2_with fail
    go_ret
    exact ⟨rfl, Below.refl _ _⟩
  have hnm' : ¬ (1048576 : Int) < (a1.size : Int) := by omega
  clear r0 f0 hlen
  by_cases hz : szRow (szB d) m0 ≤ 1048576
  case neg =>
    have hl : lft 1048576 (szRow (szB d) m0) = -1 := by unfold lft; rw [if_neg (by omega)]
    rw [hl] at hC
    clear hl hz
    go_enter Try.func7, Try.ntmps7
    go_wp2_with fail
    refine hC.mono ?_
    clear hC
    rintro e wa ⟨rfl, bela⟩
    go_wp2_with fail
    go_ret
    exact ⟨rfl, bela⟩
  obtain ⟨y, hy⟩ : ∃ y, lft 1048576 (szRow (szB d) m0) = y := ⟨_, rfl⟩
  have hy0 : ¬ y < 0 := by rw [← hy]; unfold lft; rw [if_pos (by omega)]; omega
  rw [hy] at hC
  clear hy
  have HTO : Hid (∀ V : World, Below w.heap.size w V → _) := fun V hV => toBindS_any d _ m0 V (HR.out V hV) HF.out hz
  have HSM : Hid _ := binds_small hz
  have HZ : Hid (szRow (szB d) m0 ≤ 1048576) := hz
  clear hz hnm
  go_enter Try.func7, Try.ntmps7
  go_wp2_with fail
  refine hC.mono ?_
  clear hC
  rintro e wa ⟨rfl, bela⟩
  go_wp2_with fail
  refine (HTO.out wa bela).mono ?_
  rintro e wb ⟨ab, lb, cb, fb, rfl, ownb, frb, belb⟩
  have belB : Below w.heap.size w wb := bela.trans (belb.mono bela.size)
  clear bela belb frb
  go_wp2_with fail
  refine (specBindOf_any d _ m0 a1 wb (ownb.rd (BnO.reads d)) HSM.out.1 (fun i b hb => ⟨(HF.out.2 b (List.mem_of_getElem? hb)).2.2.2.2, (HSM.out.2 i b hb).2⟩)).mono ?_
  rintro e wc ⟨k, x, s, aw, lw, cw, ts, fw, ok, rfl, hFw, hOw, hfw, belc⟩
  have belC : Below w.heap.size w wc := belB.trans (belc.mono belB.size)
  have HFB : Hid (FoundB m0 a1 k x s ts ok) := hFw
  have HWF : Hid (WfL d ts) := hFw.wf HF.out
  clear hFw belB belc ownb
  obtain ⟨wc', hwc'⟩ : ∃ w2, w2 = wc.alloc (.cells #[.int .i64 k, .int .i64 x, .string s, .slice aw lw cw] 29) := ⟨_, rfl⟩
  have belc' : Below wc.heap.size wc wc' := by rw [hwc']; exact (Below.refl _ _).alloc (Nat.le_refl _) _
  have hw0 : wc'.heap[wc.heap.size]? = some (.cells #[.int .i64 k, .int .i64 x, .string s, .slice aw lw cw] 29 (0, 0)) := by rw [hwc']; exact heap_alloc_new wc _
  have hzc : wc'.heap.size = wc.heap.size + 1 := by rw [hwc']; simp
  have belC' : Below w.heap.size w wc' := belC.trans (belc'.mono belC.size)
  have hD := HTO.out wc' belC'
  have HWC : Hid (wc' = _) := hwc'
  rw [hwc'] at hD
  clear hwc'
  go_wp2_with fail
  refine hD.mono ?_
  clear hD
  rw [← HWC.out]
  rintro e wd ⟨ax, lx, cx, fx, rfl, ownx, frx, beld⟩
  have hE := bindOf_any d (.slice ax lx cx) m0 a1 wd (ownx.rd (BnO.readsQ d)) HSM.out.1 (fun i b hb => (HSM.out.2 i b hb).1)
  go_wp2_with fail
  refine hE.mono ?_
  clear hE
  rintro e we ⟨k2, x2, s2, ag, lg, cg, ts2, fg, ok2, rfl, hFg, hOg, hfg, bele⟩
  obtain ⟨rfl, rfl, rfl, rfl, rfl⟩ := HFB.out.same hFg
  clear hFg
  obtain ⟨wf, hwf⟩ : ∃ w2, w2 = we.alloc (.cells #[.int .i64 k, .int .i64 x, .string s, .slice ag lg cg] 29) := ⟨_, rfl⟩
  have belf : Below we.heap.size we wf := by rw [hwf]; exact (Below.refl _ _).alloc (Nat.le_refl _) _
  have hg0 : wf.heap[we.heap.size]? = some (.cells #[.int .i64 k, .int .i64 x, .string s, .slice ag lg cg] 29 (0, 0)) := by rw [hwf]; exact heap_alloc_new we _
  have belce : Below wc'.heap.size wc' wf := beld.trans ((bele.trans (belf.mono bele.size)).mono beld.size)
  have bef : Below wd.heap.size wd wf := bele.trans (belf.mono bele.size)
  have HS : Hid (SB d w wf wc.heap.size we.heap.size k x s aw lw cw ag lg cg ts ts fw fg) :=
    ⟨(belce.block _ (by omega)).trans hw0, hg0, belC'.trans (belce.mono belC'.size), hOw.frame (fun g hg => by have := (hfw.2 g hg).2; exact (belce.block g (by omega)).trans (belc'.block g this)), hOg.frame (fun g hg => belf.block g (hfg.2 g hg).2)⟩
  have HFW : Hid (∀ g ∈ fw, g < wc.heap.size) := fun g hg => (hfw.2 g hg).2
  have HFX : Hid (fx.Nodup ∧ ∀ g ∈ fx, wc.heap.size < g ∧ g < wd.heap.size) := ⟨frx.1, fun g hg => ⟨by have := (frx.2 g hg).1; omega, (frx.2 g hg).2⟩⟩
  have HFG : Hid (fg.Nodup ∧ ∀ g ∈ fg, wd.heap.size ≤ g ∧ g < we.heap.size) := ⟨hfg.1, fun g hg => hfg.2 g hg⟩
  have HOX : Hid (OwnRow 5 63 (BnO d) wf (.slice ax lx cx) m0 fx) := ownx.frame (BnO.lasts d) fun g hg => bef.block g (frx.2 g hg).2
  have hz1 : w.heap.size ≤ wc.heap.size := belC.size
  have hz2 : wc.heap.size + 1 ≤ wd.heap.size := by have := beld.size; omega
  have hz3 : wd.heap.size ≤ we.heap.size := bele.size
  clear hw0 hg0 belC belc' belC' beld bele belf belce bef hOw hOg hfw hfg frx ownx hzc HWC
  have HWE : Hid (wf = _) := hwf
  have hCq := HS.out.cells
  have hQ := eqTerm_of d (eqTermS_any d) k x s _ _ ts wf HS.out.oG.rd HS.out.oW.rd HWF.out
  obtain ⟨⟨c0, c1, c2, c3⟩, _⟩ := hCq
  rw [hwf] at hQ c0 c1 c2 c3
  clear hwf
  go_wp2_with fail
  refine hQ.mono ?_
  clear hQ c0 c1 c2 c3
  rintro e wg ⟨rfl, belg⟩
  rw [← HWE.out] at belg
  have HS1 : Hid (SB d w wg wc.heap.size we.heap.size k x s aw lw cw ag lg cg ts ts fw fg) := HS.out.later belg
  have HOX1 : Hid (OwnRow 5 63 (BnO d) wg (.slice ax lx cx) m0 fx) := HOX.out.frame (BnO.lasts d) fun g hg => belg.block g (by have := (HFX.out.2 g hg).2; have := lt_row HS.out.g0; omega)
  clear belg HWE HS HOX
  have hne : (ok != ok) = false := by simp
  go_wp2_with fail
  refine (HTO.out wg HS1.out.b).mono ?_
  rintro e wh ⟨ay, ly, cy, fy, rfl, owny, fry, belh⟩
  have HS2 : Hid (SB d w wh wc.heap.size we.heap.size k x s aw lw cw ag lg cg ts ts fw fg) := HS1.out.later belh
  have HOX2 : Hid (OwnRow 5 63 (BnO d) wh (.slice ax lx cx) m0 fx) := HOX1.out.frame (BnO.lasts d) fun g hg => belh.block g (by have := (HFX.out.2 g hg).2; have := lt_row HS1.out.g0; omega)
  have hQ := eqBindS_any d _ _ m0 wh (HOX2.out.rd (BnO.reads d)) (owny.rd (BnO.reads d)) HF.out
  clear HS1 HOX1 belh owny fry
  go_wp2_with fail
  refine hQ.mono ?_
  clear hQ
  rintro e wi ⟨rfl, beli⟩
  have HS3 : Hid (SB d w wi wc.heap.size we.heap.size k x s aw lw cw ag lg cg ts ts fw fg) := HS2.out.later beli
  have HOX3 : Hid (OwnRow 5 63 (BnO d) wi (.slice ax lx cx) m0 fx) := HOX2.out.frame (BnO.lasts d) fun g hg => beli.block g (by have := (HFX.out.2 g hg).2; have := lt_row HS2.out.g0; omega)
  clear HS2 HOX2 beli
  have hM := markBindS_any d (.slice ax lx cx) m0 fx 1 wi HOX3.out HFX.out.1 (by omega) (by have := ck_sum m0; have := HZ.out; omega) (by have := HSM.out.1; omega)
  go_wp2_with fail
  refine hM.mono ?_
  clear hM
  rintro e wj ⟨q, rfl, hq0, hWj⟩
  have HS4 : Hid (SB d w wj wc.heap.size we.heap.size k x s aw lw cw ag lg cg ts ts fw fg) := HS3.out.other hWj (fun h => by have := (HFX.out.2 _ h).1; omega) (fun h => by have := (HFX.out.2 _ h).2; omega) (fun g hg => by have := (HFX.out.2 g hg).1; omega) (fun g hg h => by have := HFW.out g hg; have := (HFX.out.2 g h).1; omega) (fun g hg h => by have := (HFG.out.2 g hg).1; have := (HFX.out.2 g h).2; omega)
  clear HS3 HOX3 hWj
  have hq0' : ¬ q < 0 := by omega
  obtain ⟨⟨c0, c1, c2, c3⟩, d0, d1, d2, d3⟩ := HS4.out.cells
  go_wp2_with fail
  refine (eqTerm_of d (eqTermS_any d) k x s _ _ ts wj HS4.out.oG.rd HS4.out.oW.rd HWF.out).mono ?_
  clear c0 c1 c2 c3 d0 d1 d2 d3
  rintro e wk ⟨rfl, belk⟩
  have HS5 : Hid (SB d w wk wc.heap.size we.heap.size k x s aw lw cw ag lg cg ts ts fw fg) := HS4.out.later belk
  clear HS4 belk
  obtain ⟨_, d0, d1, d2, d3⟩ := HS5.out.cells
  have hcnt := HFB.out.cnt (C := 1048576) (fun i b hb => (HSM.out.2 i b hb).1)
  obtain ⟨cn, hcn⟩ : ∃ cn, cntL d ts = cn := ⟨_, rfl⟩
  have HCN : Hid (cntL d ts = cn) := hcn
  have hmk := markTerm_of d k x s ag lg cg ts fg 1 wk HS5.out.oG HFG.out.1 (by omega) (by omega)
  rw [hcn] at hcnt hmk
  clear hcn
  go_wp2_with fail
  refine hmk.mono ?_
  clear hmk d0 d1 d2 d3
  rintro e wl ⟨rfl, ownl, hWl⟩
  have HS6 : Hid (SB d w wl wc.heap.size we.heap.size k x s aw lw cw ag lg cg ts (markL d 1 ts).1 fw fg) := HS5.out.wrote hWl (fun h => by have := HFG.out.2 _ h; omega) (fun h => by have := HFG.out.2 _ h; omega) (fun g hg => by have := (HFG.out.2 g hg).1; omega) (fun g hg h => by have := HFW.out g hg; have := (HFG.out.2 g h).1; omega) ownl
  clear HS5 hWl ownl
  obtain ⟨_, d0, d1, d2, d3⟩ := HS6.out.cells
  have hhd := heldTerm_of d k x s ag lg cg ts 1 wl HS6.out.oG.rd (by omega) (by have := HCN.out; omega)
  rw [HCN.out] at hhd
  go_wp2_with fail
  refine hhd.mono ?_
  clear hhd d0 d1 d2 d3
  rintro e wm ⟨rfl, belm⟩
  have HS7 : Hid (SB d w wm wc.heap.size we.heap.size k x s aw lw cw ag lg cg ts (markL d 1 ts).1 fw fg) := HS6.out.later belm
  clear HS6 belm
  go_wp2_with fail
  refine (HTO.out wm HS7.out.b).mono ?_
  rintro e wn ⟨az, lz, cz, fz, rfl, ownz, frz, beln⟩
  have HS8 : Hid (SB d w wn wc.heap.size we.heap.size k x s aw lw cw ag lg cg ts (markL d 1 ts).1 fw fg) := HS7.out.later beln
  have hE := bindOf_any d (.slice az lz cz) m0 a1 wn (ownz.rd (BnO.readsQ d)) HSM.out.1 (fun i b hb => (HSM.out.2 i b hb).1)
  clear HS7 beln ownz frz
  go_wp2_with fail
  refine hE.mono ?_
  clear hE
  rintro e wo ⟨k3, x3, s3, ah, lh, ch, ts3, fh, ok3, rfl, hFh, hOh, hfh, belo⟩
  obtain ⟨rfl, rfl, rfl, rfl, rfl⟩ := HFB.out.same hFh
  have HS9 : Hid (SB d w wo wc.heap.size we.heap.size k x s aw lw cw ag lg cg ts (markL d 1 ts).1 fw fg) := HS8.out.later belo
  clear hFh HS8 belo hfh
  obtain ⟨wp, hwp⟩ : ∃ w2, w2 = wo.alloc (.cells #[.int .i64 k, .int .i64 x, .string s, .slice ah lh ch] 29) := ⟨_, rfl⟩
  have belp : Below wo.heap.size wo wp := by rw [hwp]; exact (Below.refl _ _).alloc (Nat.le_refl _) _
  have HSA : Hid (SB d w wp wc.heap.size we.heap.size k x s aw lw cw ag lg cg ts (markL d 1 ts).1 fw fg) := HS9.out.later belp
  have hrh := hOh.rd.later belp
  clear HS9 hOh belp
  have HWO : Hid (wp = _) := hwp
  obtain ⟨⟨c0, c1, c2, c3⟩, _⟩ := HSA.out.cells
  have hQ := eqTerm_of d (eqTermS_any d) k x s _ _ ts wp hrh HSA.out.oW.rd HWF.out
  rw [hwp] at hQ c0 c1 c2 c3
  clear hwp hrh
  go_wp2_with fail
  refine hQ.mono ?_
  clear hQ c0 c1 c2 c3
  rintro e wq ⟨rfl, belq⟩
  rw [← HWO.out] at belq
  have HSB : Hid (SB d w wq wc.heap.size we.heap.size k x s aw lw cw ag lg cg ts (markL d 1 ts).1 fw fg) := HSA.out.later belq
  clear HSA belq HWO
  obtain ⟨_, d0, d1, d2, d3⟩ := HSB.out.cells
  have hhd := heldTerm_of d k x s ag lg cg ts 1 wq HSB.out.oG.rd (by omega) (by have := HCN.out; omega)
  rw [HCN.out] at hhd
  go_wp2_with fail
  refine hhd.mono ?_
  clear hhd d0 d1 d2 d3
  rintro e wr ⟨rfl, belr⟩
  have HSC := HSB.out.later belr
  clear HSB belr
  go_wp2_with fail
  go_ret
  exact ⟨rfl, HSC.b⟩

set_option maxRecDepth 100000 in
theorem lifted (os : Os) (started : os.Started) (H : Type) (enc : TypeId × Value → H) :
    ReturnsInHanded {} Try.checked os 7 .any (Rows.fnExactBindOfSpec.pre6 enc Try.prog Try.f7 Rows.fnExactBindOfRow.domain false) (Rows.fnExactBindOfSpec.post enc Try.prog Try.f7 false true false false) := by
  refine returnsInHanded_of_change (C := Try.checked) own started (by kernel_rfl) Try.func7
    (ChangeSpec.witness6 (enc := enc) (C := Try.checked) false ⟨#[], #[.slice none 0 0, .string ⟨#[]⟩], []⟩ 8 (by kernel_rfl) (by kernel_rfl) (by kernel_rfl) (by kernel_rfl)) ?_
  intro W base args ds gs before hval0 hW hcnd _
  have hval : ∀ (j : Nat) t v, Try.f7.params[j]? = some t → args[j]? = some v → Value.okWide Try.prog W .any base t v := hval0
  have hW' := hW
  obtain ⟨p, q, hA0, hV, rfl, hfz, hnd⟩ := hW
  have hA : DataW.TrodAll enc Try.prog W 0 (fun _ => true) true Try.f7.params.toList args.toList ds p := hA0
  rw [Try.params7] at hA hval
  obtain ⟨v0, vs0, d0, ds0, p0, q0, hargs, rfl, rfl, h0, rr0⟩ := trodAll_cons hA
  obtain ⟨v1, vs1, d1, ds1, p1, q1, rfl, rfl, rfl, h1, rr1⟩ := trodAll_cons rr0
  obtain ⟨rfl, rfl, rfl⟩ := trodAll_nil rr1
  obtain rfl : args = #[v0, v1] := by cases args; simp_all
  obtain ⟨rfl, rfl⟩ := trodVars_none hV
  obtain ⟨a0, len0, cap0, rfl⟩ := okWide_slice Try.underlying37 (hval 0 37 v0 rfl rfl)
  have kk0 := h0
  have lt0 : ∀ x ∈ p0, x.block < W.heap.size := by obtain ⟨m, hm⟩ := kk0; exact DataW.trod_lt m _ _ _ hm
  obtain ⟨M0, hf0⟩ := h0
  obtain ⟨a1, rfl, rfl, rfl, w1⟩ := open_string Try.underlying9 (hval 1 9 v1 rfl rfl) h1
  obtain ⟨d, hd⟩ : ∃ d, d = M0 := ⟨_, rfl⟩
  obtain ⟨m0, r0, f0⟩ := read_binds M0 d (by omega) _ _ hf0
  clear hA0 hval0
  refine (walk d W _ m0 r0 f0 a1 w1).mono fun e W' ⟨he, bel⟩ => ?_
  subst he
  exact ⟨_, rfl, _, _, _, [], _, [], hW', trodAll_mk1 (shut_bool Try.underlying4 _), (trodAll_cons_mk (Below.trod laidOut (by kernel_rfl) (of_decide_eq_true (by kernel_rfl)) kk0 bel lt0) (trodAll_cons_mk (shut_string Try.underlying9 w1) trodAll_mk0)), rfl, bel.frame _, fun h => by cases h⟩

theorem over : Rows.fnExactBindOfRow.holds Try.pinned (OpenSpec.ofChange Rows.fnExactBindOfSpec) :=
  OpenClaim.holds_of_wide 7 Try.f7 rfl rfl rfl rfl rfl rfl rfl ⟨rfl, rfl, rfl, rfl, rfl⟩ rfl rfl rfl rfl rfl (by kernel_rfl) Try.func7 (by kernel_rfl)
    (of_decide_eq_true (by kernel_rfl)) (by unfold Func.isWrapper; first | (rw [if_pos (by decide +kernel)]; kernel_rfl) | (rw [if_neg (by decide +kernel)]; exact ⟨rfl, rfl⟩))
    (fun os started H enc _ => lifted os started H enc)

end Go.Proofs.Ytjdhkhpdhblhbaa.fnExactBindOf
namespace Go.Proofs.Ytjdhkhpdhblhbaa
/-- THE STATEMENT. -/
theorem fnExactBindOf_said : Rows.FnExactBindOfSaid := fnExactBindOf.over
#print axioms fnExactBindOf_said
end Go.Proofs.Ytjdhkhpdhblhbaa
