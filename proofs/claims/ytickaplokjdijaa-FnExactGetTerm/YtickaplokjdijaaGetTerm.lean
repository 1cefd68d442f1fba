/- The program and the model read every row of bytes as the same term, or none, which the program makes in new memory. No condition. (The frame round the walk is the guide's own way.) -/
import Derived.Test.YtickaplokjdijaaLawG
import Derived.WalkKit
import Derived.ProofKit
import Derived.OpenShut
import Derived.ShutString
import Derived.ChangeOld
import Derived.Below
namespace Go.Proofs.Ytickaplokjdijaa.fnExactGetTerm
open Go.ChangeShapes Go.WideShapes Go.ChangeAt Go.RowKit
open Go.ChangeMaps (open_string shut_string)
set_option linter.unusedVariables false

theorem own : ownKnob Try.prog.godebug = none := by kernel_rfl
theorem laidOut : laidOutB Try.prog = true := by kernel_rfl

set_option maxHeartbeats 1000000 in
theorem walk (w : World) (a0 : Option Addr) (len0 cap0 : Nat) (z0 : List Int) (w0 : IsRow .u8 w a0 len0 cap0 z0) :
    Calls Try.prog 13 #[.slice a0 len0 cap0] w fun e w' => e = .returned (.bool true) ∧ Below w.heap.size w w' := by
  by_cases hbig : 1048576 < len0
  · go_enter Try.func13, Try.ntmps13
    go_wp2
    go_ret
    exact ⟨rfl, Below.refl _ _⟩
  have hm : len0 ≤ 1048576 := by omega
  have HBT : Hid (Bts len0 len0 (z0.take len0)) := ⟨w0.length, hm, Nat.le_refl _, by omega, w0.range⟩
  have HB := toByteS_any a0 len0 cap0 z0
  have Hrow : Hid (IsRow .u8 w a0 len0 cap0 z0) := w0
  obtain ⟨zs, hzs⟩ : ∃ zs, z0.take len0 = zs := ⟨_, rfl⟩
  rw [hzs] at HB HBT
  clear w0 hzs
  go_enter Try.func13, Try.ntmps13
  go_wp2_with fail
  refine (HB w Hrow.out hm).mono ?_
  rintro e wa ⟨rfl, owna, bela⟩
  have hza : w.heap.size < wa.heap.size := own_lt owna
  go_wp2_with fail
  refine (specGetTerm_any w.heap.size 0 len0 len0 zs wa HBT.out hza (own_cells owna)).mono ?_
  rintro e wb ⟨k, x, s, aw, lw, cw, ok, rfl, hP⟩
  obtain ⟨ts, fw, o1, o2, o3, o4, belb⟩ := gpost_own hP
  have HWF : Hid (WfL 7 ts) := o3
  have HGA : Hid (GA zs len0 k x s ts ok) := o4
  clear hP owna o3 o4
  obtain ⟨wb', hwb'⟩ : ∃ w2, w2 = wb.alloc (.cells #[.int .i64 k, .int .i64 x, .string s, .slice aw lw cw] 26) := ⟨_, rfl⟩
  have belb' : Below wb.heap.size wb wb' := by rw [hwb']; exact (Below.refl _ _).alloc (Nat.le_refl _) _
  have hw0 : wb'.heap[wb.heap.size]? = some (.cells #[.int .i64 k, .int .i64 x, .string s, .slice aw lw cw] 26 (0, 0)) := by rw [hwb']; exact heap_alloc_new wb _
  have hzb : wb'.heap.size = wb.heap.size + 1 := by rw [hwb']; simp
  have belB : Below w.heap.size w wb' := (bela.trans (belb.mono bela.size)).trans (belb'.mono (Nat.le_trans bela.size belb.size))
  have hC := HB wb' (Hrow.out.later belB) hm
  have HWB : Hid (wb' = _) := hwb'
  rw [hwb'] at hC
  clear hwb'
  go_wp2_with fail
  refine hC.mono ?_
  clear hC
  rintro e wc ⟨rfl, ownc, belc⟩
  rw [← HWB.out] at ownc belc ⊢
  have hzc : wb'.heap.size < wc.heap.size := own_lt ownc
  obtain ⟨bx, hbx⟩ : ∃ bx, wb'.heap.size = bx := ⟨_, rfl⟩
  rw [hbx] at ownc hzc ⊢
  go_wp2_with fail
  refine (getTerm_any bx 0 len0 len0 zs wc HBT.out hzc (own_cells ownc)).mono ?_
  rintro e wd ⟨k2, x2, s2, ag, lg, cg, ok2, rfl, hP⟩
  obtain ⟨ts2, fg, p1, p2, _, p4, beld⟩ := gpost_own hP
  obtain ⟨rfl, rfl, rfl, rfl, rfl⟩ := HGA.out.same p4
  clear hP p4
  obtain ⟨we, hwe⟩ : ∃ w2, w2 = wd.alloc (.cells #[.int .i64 k, .int .i64 x, .string s, .slice ag lg cg] 26) := ⟨_, rfl⟩
  have bele : Below wd.heap.size wd we := by rw [hwe]; exact (Below.refl _ _).alloc (Nat.le_refl _) _
  have hg0 : we.heap[wd.heap.size]? = some (.cells #[.int .i64 k, .int .i64 x, .string s, .slice ag lg cg] 26 (0, 0)) := by rw [hwe]; exact heap_alloc_new wd _
  have bele' : Below wc.heap.size wc we := beld.trans (bele.mono beld.size)
  have belce : Below wb'.heap.size wb' we := belc.trans (bele'.mono belc.size)
  have HS : Hid (SG w we wb.heap.size wd.heap.size k x s aw lw cw ag lg cg ts ts fw fg) :=
    ⟨(belce.block _ (by omega)).trans hw0, hg0, belB.trans (belce.mono belB.size), o1.frame (fun g hg => by have := (o2.2 g hg).2; exact (belce.block g (by omega)).trans (belb'.block g this)), p1.frame (fun g hg => bele.block g (p2.2 g hg).2)⟩
  have HFW : Hid (∀ g ∈ fw, g < wb.heap.size) := fun g hg => (o2.2 g hg).2
  have HFG : Hid (fg.Nodup ∧ ∀ g ∈ fg, bx < g ∧ g < wd.heap.size) := ⟨p2.1, fun g hg => ⟨by have := (p2.2 g hg).1; omega, (p2.2 g hg).2⟩⟩
  have HOX : Hid (we.ownsRow bx 5 1 (.slice (some ⟨bx, 0, none⟩) len0 len0) len0 (zs.map (Value.int .u8))) := own_below ownc bele'
  have hz1 : w.heap.size ≤ wb.heap.size := Nat.le_trans bela.size belb.size
  have hz2 : wb.heap.size + 1 = bx := by omega
  have hz3 : bx < wd.heap.size := Nat.lt_of_lt_of_le hzc beld.size
  clear o1 o2 p1 p2 hw0 hg0 bela belb belb' belB belc ownc beld bele bele' belce hza hzb hbx hzc HWB
  have HWE : Hid (we = _) := hwe
  have c0 : we.cell? ⟨wb.heap.size, 0, none⟩ = some (.int .i64 k) := by rw [cell_of_row we _ 0 _ _ _ HS.out.w0]; rfl
  have c1 : we.cell? ⟨wb.heap.size, 1, none⟩ = some (.int .i64 x) := by rw [cell_of_row we _ 1 _ _ _ HS.out.w0]; rfl
  have c2 : we.cell? ⟨wb.heap.size, 2, none⟩ = some (.string s) := by rw [cell_of_row we _ 2 _ _ _ HS.out.w0]; rfl
  have c3 : we.cell? ⟨wb.heap.size, 3, none⟩ = some (.slice aw lw cw) := by rw [cell_of_row we _ 3 _ _ _ HS.out.w0]; rfl
  have hC := eqTerm_of 7 (eqTermS_any 7) k x s _ _ ts we HS.out.oG.rd HS.out.oW.rd HWF.out
  rw [hwe] at hC c0 c1 c2 c3
  clear hwe
  go_wp2_with fail
  refine hC.mono ?_
  clear hC c0 c1 c2 c3
  rintro e wf ⟨rfl, belf⟩
  rw [← HWE.out] at belf
  have HS1 : Hid (SG w wf wb.heap.size wd.heap.size k x s aw lw cw ag lg cg ts ts fw fg) := HS.out.later belf
  have HOX1 : Hid (wf.ownsRow bx 5 1 (.slice (some ⟨bx, 0, none⟩) len0 len0) len0 (zs.map (Value.int .u8))) := own_below HOX.out belf
  clear belf HWE HS HOX
  have hne : (ok != ok) = false := by simp
  go_wp2_with fail
  refine (HB wf (Hrow.out.later HS1.out.b) hm).mono ?_
  rintro e wg ⟨rfl, owng, belg⟩
  have HS2 : Hid (SG w wg wb.heap.size wd.heap.size k x s aw lw cw ag lg cg ts ts fw fg) := HS1.out.later belg
  have HOX2 : Hid (wg.ownsRow bx 5 1 (.slice (some ⟨bx, 0, none⟩) len0 len0) len0 (zs.map (Value.int .u8))) := own_below HOX1.out belg
  clear HS1 HOX1 belg
  go_wp2_with fail
  refine (eqByteS_below bx wf.heap.size bx len0 wf.heap.size len0 len0 zs wg HOX2.out owng (by omega)).mono ?_
  rintro e wh ⟨rfl, belh⟩
  have HS3 : Hid (SG w wh wb.heap.size wd.heap.size k x s aw lw cw ag lg cg ts ts fw fg) := HS2.out.later belh
  have HOX3 : Hid (wh.ownsRow bx 5 1 (.slice (some ⟨bx, 0, none⟩) len0 len0) len0 (zs.map (Value.int .u8))) := own_below HOX2.out belh
  clear HS2 HOX2 belh owng
  go_wp2_with fail
  refine (markByteS_any bx bx len0 len0 _ wh HOX3.out (by omega)).mono ?_
  rintro e wi ⟨rfl, _, hgr⟩
  have HS4 : Hid (SG w wi wb.heap.size wd.heap.size k x s aw lw cw ag lg cg ts ts fw fg) := HS3.out.grown hgr (by omega) (by omega) (by omega) (fun g hg => by have := HFW.out g hg; omega) (fun g hg => by have := (HFG.out.2 g hg).1; omega)
  clear HS3 HOX3 hgr
  have c0 : wi.cell? ⟨wb.heap.size, 0, none⟩ = some (.int .i64 k) := by rw [cell_of_row wi _ 0 _ _ _ HS4.out.w0]; rfl
  have c1 : wi.cell? ⟨wb.heap.size, 1, none⟩ = some (.int .i64 x) := by rw [cell_of_row wi _ 1 _ _ _ HS4.out.w0]; rfl
  have c2 : wi.cell? ⟨wb.heap.size, 2, none⟩ = some (.string s) := by rw [cell_of_row wi _ 2 _ _ _ HS4.out.w0]; rfl
  have c3 : wi.cell? ⟨wb.heap.size, 3, none⟩ = some (.slice aw lw cw) := by rw [cell_of_row wi _ 3 _ _ _ HS4.out.w0]; rfl
  have d0 : wi.cell? ⟨wd.heap.size, 0, none⟩ = some (.int .i64 k) := by rw [cell_of_row wi _ 0 _ _ _ HS4.out.g0]; rfl
  have d1 : wi.cell? ⟨wd.heap.size, 1, none⟩ = some (.int .i64 x) := by rw [cell_of_row wi _ 1 _ _ _ HS4.out.g0]; rfl
  have d2 : wi.cell? ⟨wd.heap.size, 2, none⟩ = some (.string s) := by rw [cell_of_row wi _ 2 _ _ _ HS4.out.g0]; rfl
  have d3 : wi.cell? ⟨wd.heap.size, 3, none⟩ = some (.slice ag lg cg) := by rw [cell_of_row wi _ 3 _ _ _ HS4.out.g0]; rfl
  go_wp2_with fail
  refine (eqTerm_of 7 (eqTermS_any 7) k x s _ _ ts wi HS4.out.oG.rd HS4.out.oW.rd HWF.out).mono ?_
  clear c0 c1 c2 c3 d0 d1 d2 d3
  rintro e wj ⟨rfl, belj⟩
  have HS5 : Hid (SG w wj wb.heap.size wd.heap.size k x s aw lw cw ag lg cg ts ts fw fg) := HS4.out.later belj
  clear HS4 belj
  have d0 : wj.cell? ⟨wd.heap.size, 0, none⟩ = some (.int .i64 k) := by rw [cell_of_row wj _ 0 _ _ _ HS5.out.g0]; rfl
  have d1 : wj.cell? ⟨wd.heap.size, 1, none⟩ = some (.int .i64 x) := by rw [cell_of_row wj _ 1 _ _ _ HS5.out.g0]; rfl
  have d2 : wj.cell? ⟨wd.heap.size, 2, none⟩ = some (.string s) := by rw [cell_of_row wj _ 2 _ _ _ HS5.out.g0]; rfl
  have d3 : wj.cell? ⟨wd.heap.size, 3, none⟩ = some (.slice ag lg cg) := by rw [cell_of_row wj _ 3 _ _ _ HS5.out.g0]; rfl
  have hcnt := HGA.out.cnt
  obtain ⟨cn, hcn⟩ : ∃ cn, cntL 7 ts = cn := ⟨_, rfl⟩
  have HCN : Hid (cntL 7 ts = cn) := hcn
  have hmk := markTerm_of 7 k x s ag lg cg ts fg 1 wj HS5.out.oG HFG.out.1 (by omega) (by omega)
  rw [hcn] at hcnt hmk
  clear hcn
  go_wp2_with fail
  refine hmk.mono ?_
  clear hmk d0 d1 d2 d3
  rintro e wk ⟨rfl, ownk, hWr⟩
  have HS6 : Hid (SG w wk wb.heap.size wd.heap.size k x s aw lw cw ag lg cg ts (markL 7 1 ts).1 fw fg) := HS5.out.wrote hWr (fun h => by have := HFG.out.2 _ h; omega) (fun h => by have := HFG.out.2 _ h; omega) (fun g hg => by have := (HFG.out.2 g hg).1; omega) (fun g hg h => by have := HFW.out g hg; have := (HFG.out.2 g h).1; omega) ownk
  clear HS5 hWr ownk
  have d0 : wk.cell? ⟨wd.heap.size, 0, none⟩ = some (.int .i64 k) := by rw [cell_of_row wk _ 0 _ _ _ HS6.out.g0]; rfl
  have d1 : wk.cell? ⟨wd.heap.size, 1, none⟩ = some (.int .i64 x) := by rw [cell_of_row wk _ 1 _ _ _ HS6.out.g0]; rfl
  have d2 : wk.cell? ⟨wd.heap.size, 2, none⟩ = some (.string s) := by rw [cell_of_row wk _ 2 _ _ _ HS6.out.g0]; rfl
  have d3 : wk.cell? ⟨wd.heap.size, 3, none⟩ = some (.slice ag lg cg) := by rw [cell_of_row wk _ 3 _ _ _ HS6.out.g0]; rfl
  have hhd := heldTerm_of 7 k x s ag lg cg ts 1 wk HS6.out.oG.rd (by omega) (by have := HCN.out; omega)
  rw [HCN.out] at hhd
  go_wp2_with fail
  refine hhd.mono ?_
  clear hhd d0 d1 d2 d3
  rintro e wl ⟨rfl, bell⟩
  have HS7 : Hid (SG w wl wb.heap.size wd.heap.size k x s aw lw cw ag lg cg ts (markL 7 1 ts).1 fw fg) := HS6.out.later bell
  clear HS6 bell
  go_wp2_with fail
  refine (HB wl (Hrow.out.later HS7.out.b) hm).mono ?_
  rintro e wm ⟨rfl, ownm, belm⟩
  have HS8 : Hid (SG w wm wb.heap.size wd.heap.size k x s aw lw cw ag lg cg ts (markL 7 1 ts).1 fw fg) := HS7.out.later belm
  have hzm : wl.heap.size < wm.heap.size := own_lt ownm
  clear HS7 belm
  go_wp2_with fail
  refine (getTerm_any wl.heap.size 0 len0 len0 zs wm HBT.out hzm (own_cells ownm)).mono ?_
  rintro e wn ⟨k3, x3, s3, ah, lh, ch, ok3, rfl, hP⟩
  obtain ⟨ts3, fh, p1, p2, _, p4, beln⟩ := gpost_own hP
  obtain ⟨rfl, rfl, rfl, rfl, rfl⟩ := HGA.out.same p4
  have HS9 : Hid (SG w wn wb.heap.size wd.heap.size k x s aw lw cw ag lg cg ts (markL 7 1 ts).1 fw fg) := HS8.out.later beln
  clear hP p4 HS8 ownm hzm beln p2
  obtain ⟨wo, hwo⟩ : ∃ w2, w2 = wn.alloc (.cells #[.int .i64 k, .int .i64 x, .string s, .slice ah lh ch] 26) := ⟨_, rfl⟩
  have belo : Below wn.heap.size wn wo := by rw [hwo]; exact (Below.refl _ _).alloc (Nat.le_refl _) _
  have HSA : Hid (SG w wo wb.heap.size wd.heap.size k x s aw lw cw ag lg cg ts (markL 7 1 ts).1 fw fg) := HS9.out.later belo
  have hrh := p1.rd.later belo
  clear HS9 p1 belo
  have HWO : Hid (wo = _) := hwo
  have c0 : wo.cell? ⟨wb.heap.size, 0, none⟩ = some (.int .i64 k) := by rw [cell_of_row wo _ 0 _ _ _ HSA.out.w0]; rfl
  have c1 : wo.cell? ⟨wb.heap.size, 1, none⟩ = some (.int .i64 x) := by rw [cell_of_row wo _ 1 _ _ _ HSA.out.w0]; rfl
  have c2 : wo.cell? ⟨wb.heap.size, 2, none⟩ = some (.string s) := by rw [cell_of_row wo _ 2 _ _ _ HSA.out.w0]; rfl
  have c3 : wo.cell? ⟨wb.heap.size, 3, none⟩ = some (.slice aw lw cw) := by rw [cell_of_row wo _ 3 _ _ _ HSA.out.w0]; rfl
  have hC := eqTerm_of 7 (eqTermS_any 7) k x s _ _ ts wo hrh HSA.out.oW.rd HWF.out
  rw [hwo] at hC c0 c1 c2 c3
  clear hwo hrh
  go_wp2_with fail
  refine hC.mono ?_
  clear hC c0 c1 c2 c3
  rintro e wp ⟨rfl, belp⟩
  rw [← HWO.out] at belp
  have HSB : Hid (SG w wp wb.heap.size wd.heap.size k x s aw lw cw ag lg cg ts (markL 7 1 ts).1 fw fg) := HSA.out.later belp
  clear HSA belp HWO
  have d0 : wp.cell? ⟨wd.heap.size, 0, none⟩ = some (.int .i64 k) := by rw [cell_of_row wp _ 0 _ _ _ HSB.out.g0]; rfl
  have d1 : wp.cell? ⟨wd.heap.size, 1, none⟩ = some (.int .i64 x) := by rw [cell_of_row wp _ 1 _ _ _ HSB.out.g0]; rfl
  have d2 : wp.cell? ⟨wd.heap.size, 2, none⟩ = some (.string s) := by rw [cell_of_row wp _ 2 _ _ _ HSB.out.g0]; rfl
  have d3 : wp.cell? ⟨wd.heap.size, 3, none⟩ = some (.slice ag lg cg) := by rw [cell_of_row wp _ 3 _ _ _ HSB.out.g0]; rfl
  have hhd := heldTerm_of 7 k x s ag lg cg ts 1 wp HSB.out.oG.rd (by omega) (by have := HCN.out; omega)
  rw [HCN.out] at hhd
  go_wp2_with fail
  refine hhd.mono ?_
  clear hhd d0 d1 d2 d3
  rintro e wq ⟨rfl, belq⟩
  have HSC := HSB.out.later belq
  clear HSB belq
  go_wp2_with fail
  go_ret
  exact ⟨rfl, HSC.b⟩

set_option maxRecDepth 100000 in
theorem lifted (os : Os) (started : os.Started) (H : Type) (enc : TypeId × Value → H) :
    ReturnsInHanded {} Try.checked os 13 .any (Rows.fnExactGetTermSpec.pre6 enc Try.prog Try.f13 Rows.fnExactGetTermRow.domain false) (Rows.fnExactGetTermSpec.post enc Try.prog Try.f13 false true false false) := by
  refine returnsInHanded_of_change (C := Try.checked) own started (by kernel_rfl) Try.func13
    (ChangeSpec.witness6 (enc := enc) (C := Try.checked) false ⟨#[], #[.slice none 0 0], []⟩ 8 (by kernel_rfl) (by kernel_rfl) (by kernel_rfl) (by kernel_rfl)) ?_
  intro W base args ds gs before hval0 hW hcnd _
  have hval : ∀ (j : Nat) t v, Try.f13.params[j]? = some t → args[j]? = some v → Value.okWide Try.prog W .any base t v := hval0
  have hW' := hW
  obtain ⟨p, q, hA0, hV, rfl, hfz, hnd⟩ := hW
  have hA : DataW.TrodAll enc Try.prog W 0 (fun _ => true) true Try.f13.params.toList args.toList ds p := hA0
  rw [Try.params13] at hA hval
  obtain ⟨v0, vs0, d0, ds0, p0, q0, hargs, rfl, rfl, h0, rr0⟩ := trodAll_cons hA
  obtain ⟨rfl, rfl, rfl⟩ := trodAll_nil rr0
  obtain rfl : args = #[v0] := by cases args; simp_all
  obtain ⟨rfl, rfl⟩ := trodVars_none hV
  obtain ⟨a0, len0, cap0, rfl⟩ := okWide_slice Try.underlying22 (hval 0 22 v0 rfl rfl)
  have k0 := h0
  have lt0 : ∀ x ∈ p0, x.block < W.heap.size := by obtain ⟨m, hm⟩ := k0; exact DataW.trod_lt m _ _ _ hm
  obtain ⟨z0, w0⟩ : ∃ zs, IsRow .u8 W a0 len0 cap0 zs := by
    obtain ⟨fuel, hf⟩ := h0
    rcases open_ints Try.underlying22 Try.underlying5 (by kernel_rfl) hf with ⟨hcs, _⟩ | ⟨x, l, c, zs, hcs, _, hl, hm, hz, _, hcell, hwz⟩
    · simp [Value.cells] at hcs
      obtain ⟨rfl, rfl, rfl⟩ := hcs
      exact ⟨[], .inl ⟨rfl, rfl, rfl, rfl⟩⟩
    · simp [Value.cells] at hcs
      obtain ⟨rfl, rfl, rfl⟩ := hcs
      exact ⟨zs, .inr ⟨_, rfl, hl, hm, by simpa using hz, hcell, hwz⟩⟩

  clear hA0 hval0
  refine (walk W a0 len0 cap0 z0 w0).mono fun e W' ⟨he, bel⟩ => ?_
  subst he
  exact ⟨_, rfl, _, _, _, [], _, [], hW', trodAll_mk1 (shut_bool Try.underlying4 _), (trodAll_cons_mk (Below.trod laidOut (by kernel_rfl) (of_decide_eq_true (by kernel_rfl)) k0 bel lt0) trodAll_mk0), rfl, bel.frame _, fun h => by cases h⟩

theorem over : Rows.fnExactGetTermRow.holds Try.pinned (OpenSpec.ofChange Rows.fnExactGetTermSpec) :=
  OpenClaim.holds_of_wide 13 Try.f13 rfl rfl rfl rfl rfl rfl rfl ⟨rfl, rfl, rfl, rfl, rfl⟩ rfl rfl rfl rfl rfl (by kernel_rfl) Try.func13 (by kernel_rfl)
    (of_decide_eq_true (by kernel_rfl)) (by unfold Func.isWrapper; first | (rw [if_pos (by decide +kernel)]; kernel_rfl) | (rw [if_neg (by decide +kernel)]; exact ⟨rfl, rfl⟩))
    (fun os started H enc _ => lifted os started H enc)

end Go.Proofs.Ytickaplokjdijaa.fnExactGetTerm
namespace Go.Proofs.Ytickaplokjdijaa
/-- THE STATEMENT. -/
theorem fnExactGetTerm_said : Rows.FnExactGetTermSaid := fnExactGetTerm.over
#print axioms fnExactGetTerm_said
end Go.Proofs.Ytickaplokjdijaa
