/- An operation done, and its code: the program's. -/
import Derived.Test.YtfegiccjfepnnaaDoorOp7M
import Derived.Test.YtfegiccjfepnnaaDoorRowM
import Derived.Test.YtfegiccjfepnnaaDoorOw4M
import Derived.Test.YtfegiccjfepnnaaDoorFqM
namespace Go.Proofs.YtfegiccjfepnnaaDoor
open Go.RowKit
set_option linter.unusedVariables false

set_option maxRecDepth 100000 in
set_option maxHeartbeats 4000000 in
theorem operated_any {d : Nat} (op : ByteArray) (ka na : Int) (sa : ByteArray) (aa : Option Addr) (la ca : Nat) (ta : List (Tm d)) (kb nb : Int) (sb : ByteArray) (ab : Option Addr) (lb cb : Nat) (tb : List (Tm d)) (w : World)
    (ra : RdL d w (.slice aa la ca) ta) (rb : RdL d w (.slice ab lb cb) tb) (wa : WfL d ta) (wb : WfL d tb) (hsa : sa.size ≤ 9223372036854775807) (hsb : sb.size ≤ 9223372036854775807) :
    Calls Tryd.prog 20 #[.string op, .agg #[.int .i64 ka, .int .i64 na, .string sa, .slice aa la ca], .agg #[.int .i64 kb, .int .i64 nb, .string sb, .slice ab lb cb]] w fun e w' => PRes (opD op (mk ka na sa ta) (mk kb nb sb tb)) w e w' := by
  obtain ⟨RR, hRR⟩ : ∃ r, opD op (mk ka na sa ta) (mk kb nb sb tb) = r := ⟨_, rfl⟩
  have HRR : Hid (opD op (mk ka na sa ta) (mk kb nb sb tb) = RR) := hRR
  rw [hRR]
  clear hRR
  unfold PRes
  obtain ⟨W, hW⟩ : ∃ W, W = ((w.alloc (.cells #[.int .i64 ka, .int .i64 na, .string sa, .slice aa la ca] 28)).alloc (.cells #[.int .i64 kb, .int .i64 nb, .string sb, .slice ab lb cb] 28)).alloc (.cells #[.int .i64 0, .int .i64 0, .string ⟨#[]⟩, .slice none 0 0] 28) := ⟨_, rfl⟩
  obtain ⟨nA, nB, nR⟩ := heap_three w (.cells #[.int .i64 ka, .int .i64 na, .string sa, .slice aa la ca] 28) (.cells #[.int .i64 kb, .int .i64 nb, .string sb, .slice ab lb cb] 28) (.cells #[.int .i64 0, .int .i64 0, .string ⟨#[]⟩, .slice none 0 0] 28)
  rw [← hW] at nA nB nR
  have hA : Below w.heap.size w W := by rw [hW]; exact (((Below.refl _ _).alloc (Nat.le_refl _) _).alloc (by simp) _).alloc (by simp; omega) _
  have HB : Hid (Below w.heap.size w W) := hA
  have HRB : Hid (∀ V : World, Below W.heap.size W V → (V.cell? ⟨w.heap.size + 1 + 1, 0, none⟩ = some (.int .i64 0) ∧ V.cell? ⟨w.heap.size + 1 + 1, 1, none⟩ = some (.int .i64 0) ∧ V.cell? ⟨w.heap.size + 1 + 1, 2, none⟩ = some (.string ⟨#[]⟩) ∧ V.cell? ⟨w.heap.size + 1 + 1, 3, none⟩ = some (.slice none 0 0)) ∧ V.frozen? ⟨w.heap.size + 1 + 1, 0, none⟩ = false ∧ V.frozen? ⟨w.heap.size + 1 + 1, 1, none⟩ = false ∧ V.frozen? ⟨w.heap.size + 1 + 1, 2, none⟩ = false ∧ V.frozen? ⟨w.heap.size + 1 + 1, 3, none⟩ = false) := fun V hV => by
    have mR := (hV.block _ (lt_row nR)).trans nR
    exact ⟨⟨by rw [cell_of_row V _ 0 _ _ _ mR]; rfl, by rw [cell_of_row V _ 1 _ _ _ mR]; rfl, by rw [cell_of_row V _ 2 _ _ _ mR]; rfl, by rw [cell_of_row V _ 3 _ _ _ mR]; rfl⟩, frozen_of_row V _ _ _ _ mR, frozen_of_row V _ _ _ _ mR, frozen_of_row V _ _ _ _ mR, frozen_of_row V _ _ _ _ mR⟩
  have HST : Hid (∀ (V : World) (x0 x1 x2 x3 : Value), Below W.heap.size W V → Below w.heap.size w ((((V.setCell ⟨w.heap.size + 1 + 1, 0, none⟩ x0).setCell ⟨w.heap.size + 1 + 1, 0 + 1, none⟩ x1).setCell ⟨w.heap.size + 1 + 1, 0 + 2, none⟩ x2).setCell ⟨w.heap.size + 1 + 1, 0 + 3, none⟩ x3)) := fun V x0 x1 x2 x3 hV => (HB.out.trans (hV.mono HB.out.size)).trans ((stores4_below V (w.heap.size + 1 + 1) 0 x0 x1 x2 x3).mono (by omega))
  have HW : Hid (W = _) := hW
  have HBX : Hid (∀ V : World, Below W.heap.size W V → (V.cell? ⟨w.heap.size, 0, none⟩ = some (.int .i64 ka) ∧ V.cell? ⟨w.heap.size, 1, none⟩ = some (.int .i64 na) ∧ V.cell? ⟨w.heap.size, 2, none⟩ = some (.string sa) ∧ V.cell? ⟨w.heap.size, 3, none⟩ = some (.slice aa la ca)) ∧ (V.cell? ⟨w.heap.size + 1, 0, none⟩ = some (.int .i64 kb) ∧ V.cell? ⟨w.heap.size + 1, 1, none⟩ = some (.int .i64 nb) ∧ V.cell? ⟨w.heap.size + 1, 2, none⟩ = some (.string sb) ∧ V.cell? ⟨w.heap.size + 1, 3, none⟩ = some (.slice ab lb cb))) := fun V hV => by
    have mA := (hV.block _ (lt_row nA)).trans nA
    have mB := (hV.block _ (lt_row nB)).trans nB
    exact ⟨⟨by rw [cell_of_row V _ 0 _ _ _ mA]; rfl, by rw [cell_of_row V _ 1 _ _ _ mA]; rfl, by rw [cell_of_row V _ 2 _ _ _ mA]; rfl, by rw [cell_of_row V _ 3 _ _ _ mA]; rfl⟩, ⟨by rw [cell_of_row V _ 0 _ _ _ mB]; rfl, by rw [cell_of_row V _ 1 _ _ _ mB]; rfl, by rw [cell_of_row V _ 2 _ _ _ mB]; rfl, by rw [cell_of_row V _ 3 _ _ _ mB]; rfl⟩⟩
  have HNO : Hid (¬ (OpP op ∧ Right d ka na sa ta 8 300 ∧ Right d kb nb sb tb 8 300) → RR = (0, 0, ⟨#[]⟩, 1)) := fun h => by
    rw [← HRR.out]
    unfold opD
    exact if_neg h
  have HYES : Hid (OpP op ∧ Right d ka na sa ta 8 300 ∧ Right d kb nb sb tb 8 300 → opG op (mk ka na sa ta) (mk kb nb sb tb) = RR) := fun h => by
    rw [← HRR.out]
    unfold opD
    exact (if_pos h).symm
  have HTA : Hid (∀ V : World, Below w.heap.size w V → _) := fun V hV => termOk_any d ka na sa _ ta V (ra.later hV) wa hsa
  have HTB : Hid (∀ V : World, Below w.heap.size w V → _) := fun V hV => termOk_any d kb nb sb _ tb V (rb.later hV) wb hsb
  have HOA : Hid (∀ (V : World) (f g p : Nat) (t : TypeId), Below w.heap.size w V → OpFn op f g → V.heap[p]? = some (.cells #[.func (.func g) #[] #[]] t (0, 0)) → Right d ka na sa ta 8 300 → Right d kb nb sb tb 8 300 → _) := fun V f g p t hV h1 h2 h3 h4 => opFn_any op f g p t h1 ka na sa aa la ca ta kb nb sb ab lb cb tb V h2 (ra.later hV) (rb.later hV) h3 h4
  have hN0 := nil_fn
  have hN1 := some_fn
  have hC := operationOf_any op W
  rw [hW] at hC
  clear ra rb wa wb hA nA nB nR hW
  go_enter Tryd.func20, Tryd.ntmps20
  go_wp2_with fail
  refine hC.mono ?_
  clear hC
  intro e V hO
  rw [← HW.out] at hO
  rcases hO with ⟨rfl, hN, hV⟩ | ⟨f, g, p, t, rfl, hF, hbx, hV⟩
  · have HG : Hid (RR = (0, 0, ⟨#[]⟩, 1)) := HNO.out fun h => hN h.1
    obtain ⟨⟨r0, r1, r2, r3⟩, z0, z1, z2, z3⟩ := HRB.out V hV
    have HV : Hid (Below W.heap.size W V) := hV
    clear hN hV
    go_wp2_with fail
    refine bodyPost_ret (v := .tuple #[.agg #[.int .i64 0, .int .i64 0, .string ⟨#[]⟩, .slice none 0 0], .iface 68 (.int .i64 1)]) (by first | (simp [results, Tryd.results20, go_sem, r0, r1, r2, r3]; done) | (simp [results, Tryd.results20, go_sem, r0, r1, r2, r3]; rfl)) rfl ⟨by rw [HG.out]; rfl, HST.out V _ _ _ _ HV.out⟩
  obtain ⟨⟨x0, x1, x2, x3⟩, ⟨y0, y1, y2, y3⟩⟩ := HBX.out V hV
  have hC := HTA.out V (HB.out.trans (hV.mono HB.out.size))
  have HV : Hid (Below W.heap.size W V) := hV
  have HF : Hid (OpFn op f g) := hF
  have HP : Hid (V.heap[p]? = _) := hbx
  clear hV hF hbx
  go_wp2_with fail
  refine hC.mono ?_
  clear hC x0 x1 x2 x3 y0 y1 y2 y3
  rintro e V1 ⟨b1, rfl, hb1, hV1⟩
  have HV1 : Hid (Below V.heap.size V V1) := hV1
  have HW1 : Hid (Below W.heap.size W V1) := HV.out.trans (hV1.mono HV.out.size)
  clear hV1
  obtain ⟨⟨x0, x1, x2, x3⟩, ⟨y0, y1, y2, y3⟩⟩ := HBX.out V1 HW1.out
  cases b1 with
  | false =>
    have HG : Hid (RR = (0, 0, ⟨#[]⟩, 1)) := HNO.out fun h => by have := hb1.2 h.2.1; cases this
    obtain ⟨⟨r0, r1, r2, r3⟩, z0, z1, z2, z3⟩ := HRB.out V1 HW1.out
    clear hb1
    go_wp2_with fail
    refine bodyPost_ret (v := .tuple #[.agg #[.int .i64 0, .int .i64 0, .string ⟨#[]⟩, .slice none 0 0], .iface 68 (.int .i64 1)]) (by first | (simp [results, Tryd.results20, go_sem, r0, r1, r2, r3]; done) | (simp [results, Tryd.results20, go_sem, r0, r1, r2, r3]; rfl)) rfl ⟨by rw [HG.out]; rfl, HST.out V1 _ _ _ _ HW1.out⟩
  | true =>
  have H1 : Hid (Right d ka na sa ta 8 300) := hb1.1 rfl
  clear hb1
  have hC := HTB.out V1 (HB.out.trans (HW1.out.mono HB.out.size))
  go_wp2_with fail
  refine hC.mono ?_
  clear hC x0 x1 x2 x3 y0 y1 y2 y3
  rintro e V2 ⟨b2, rfl, hb2, hV2⟩
  have HV2 : Hid (Below V.heap.size V V2) := HV1.out.trans (hV2.mono HV1.out.size)
  have HW2 : Hid (Below W.heap.size W V2) := HW1.out.trans (hV2.mono HW1.out.size)
  clear hV2
  obtain ⟨⟨x0, x1, x2, x3⟩, ⟨y0, y1, y2, y3⟩⟩ := HBX.out V2 HW2.out
  cases b2 with
  | false =>
    have HG : Hid (RR = (0, 0, ⟨#[]⟩, 1)) := HNO.out fun h => by have := hb2.2 h.2.2; cases this
    obtain ⟨⟨r0, r1, r2, r3⟩, z0, z1, z2, z3⟩ := HRB.out V2 HW2.out
    clear hb2
    go_wp2_with fail
    refine bodyPost_ret (v := .tuple #[.agg #[.int .i64 0, .int .i64 0, .string ⟨#[]⟩, .slice none 0 0], .iface 68 (.int .i64 1)]) (by first | (simp [results, Tryd.results20, go_sem, r0, r1, r2, r3]; done) | (simp [results, Tryd.results20, go_sem, r0, r1, r2, r3]; rfl)) rfl ⟨by rw [HG.out]; rfl, HST.out V2 _ _ _ _ HW2.out⟩
  | true =>
  have H2 : Hid (Right d kb nb sb tb 8 300) := hb2.1 rfl
  clear hb2
  have eg := HF.out.enters
  have hC := HOA.out V2 f g p t (HB.out.trans (HW2.out.mono HB.out.size)) HF.out ((HV2.out.block _ (lt_row HP.out)).trans HP.out) H1.out H2.out
  rw [HYES.out ⟨HF.out.op, H1.out, H2.out⟩] at hC
  go_wp2_with (go_at_fn f; refine hC.mono ?_)
  clear hC x0 x1 x2 x3 y0 y1 y2 y3
  rintro e V3 ⟨rfl, hV3⟩
  have HW3 : Hid (Below W.heap.size W V3) := HW2.out.trans (hV3.mono HW2.out.size)
  clear hV3
  obtain ⟨⟨r0, r1, r2, r3⟩, z0, z1, z2, z3⟩ := HRB.out V3 HW3.out
  obtain ⟨k, n, s, c⟩ := RR
  go_wp2_with fail
  refine bodyPost_ret (v := .tuple #[.agg #[.int .i64 k, .int .i64 n, .string s, .slice none 0 0], faultV c]) (by first | (simp [results, Tryd.results20, go_sem, r0, r1, r2, r3]; done) | (simp [results, Tryd.results20, go_sem, r0, r1, r2, r3]; rfl)) rfl ⟨rfl, HST.out V3 _ _ _ _ HW3.out⟩

end Go.Proofs.YtfegiccjfepnnaaDoor

/- An operation, its term its own, its code: the program's, whole. -/
namespace Go.Proofs.YtfegiccjfepnnaaDoor
open Go.RowKit
set_option linter.unusedVariables false

/-- An answer that is a term without parts, and a code: the list may be empty in whatever way. -/
def OqRes (r : Int × Int × ByteArray × Int) (w : World) (e : Ending) (w' : World) : Prop := ∃ a' c', e = .returned (.tuple #[.agg #[.int .i64 r.1, .int .i64 r.2.1, .string r.2.2.1, .slice a' 0 c'], .int .i64 r.2.2.2]) ∧ Below w.heap.size w w'

theorem faultCode_any (c : Int) (w : World) (hg : ErrTy w) : Calls Tryd.prog 22 #[faultV c] w fun e w' => e = .returned (.int .i64 c) ∧ Below w.heap.size w w' := by
  unfold faultV
  by_cases h : c = 0
  · subst h
    rw [if_pos rfl]
    exact faultCode_nil w
  · rw [if_neg h]
    exact faultCode_hit c w hg

set_option maxRecDepth 100000 in
set_option maxHeartbeats 4000000 in
theorem implOperate_any {d : Nat} (op : ByteArray) (ka na : Int) (sa : ByteArray) (aa : Option Addr) (la ca : Nat) (ta : List (Tm d)) (kb nb : Int) (sb : ByteArray) (ab : Option Addr) (lb cb : Nat) (tb : List (Tm d)) (w : World)
    (ra : RdL d w (.slice aa la ca) ta) (rb : RdL d w (.slice ab lb cb) tb) (wa : WfL d ta) (wb : WfL d tb) (hsa : sa.size ≤ 9223372036854775807) (hsb : sb.size ≤ 9223372036854775807) (hg : ErrTy w) :
    Calls Tryd.prog 8 #[.string op, .agg #[.int .i64 ka, .int .i64 na, .string sa, .slice aa la ca], .agg #[.int .i64 kb, .int .i64 nb, .string sb, .slice ab lb cb]] w fun e w' => OqRes (opD op (mk ka na sa ta) (mk kb nb sb tb)) w e w' := by
  obtain ⟨W, hW⟩ : ∃ W, W = ((w.alloc (.cells #[.int .i64 ka, .int .i64 na, .string sa, .slice aa la ca] 28)).alloc (.cells #[.int .i64 kb, .int .i64 nb, .string sb, .slice ab lb cb] 28)).alloc (.cells #[.int .i64 0, .int .i64 0, .string ⟨#[]⟩, .slice none 0 0] 28) := ⟨_, rfl⟩
  obtain ⟨nA, nB, nR⟩ := heap_three w (.cells #[.int .i64 ka, .int .i64 na, .string sa, .slice aa la ca] 28) (.cells #[.int .i64 kb, .int .i64 nb, .string sb, .slice ab lb cb] 28) (.cells #[.int .i64 0, .int .i64 0, .string ⟨#[]⟩, .slice none 0 0] 28)
  rw [← hW] at nA nB nR
  have hA : Below w.heap.size w W := by rw [hW]; exact (((Below.refl _ _).alloc (Nat.le_refl _) _).alloc (by simp) _).alloc (by simp; omega) _
  have HB : Hid (Below w.heap.size w W) := hA
  have HRB : Hid (∀ V : World, Below W.heap.size W V → (V.cell? ⟨w.heap.size + 1 + 1, 0, none⟩ = some (.int .i64 0) ∧ V.cell? ⟨w.heap.size + 1 + 1, 1, none⟩ = some (.int .i64 0) ∧ V.cell? ⟨w.heap.size + 1 + 1, 2, none⟩ = some (.string ⟨#[]⟩) ∧ V.cell? ⟨w.heap.size + 1 + 1, 3, none⟩ = some (.slice none 0 0)) ∧ V.frozen? ⟨w.heap.size + 1 + 1, 0, none⟩ = false ∧ V.frozen? ⟨w.heap.size + 1 + 1, 1, none⟩ = false ∧ V.frozen? ⟨w.heap.size + 1 + 1, 2, none⟩ = false ∧ V.frozen? ⟨w.heap.size + 1 + 1, 3, none⟩ = false) := fun V hV => by
    have mR := (hV.block _ (lt_row nR)).trans nR
    exact ⟨⟨by rw [cell_of_row V _ 0 _ _ _ mR]; rfl, by rw [cell_of_row V _ 1 _ _ _ mR]; rfl, by rw [cell_of_row V _ 2 _ _ _ mR]; rfl, by rw [cell_of_row V _ 3 _ _ _ mR]; rfl⟩, frozen_of_row V _ _ _ _ mR, frozen_of_row V _ _ _ _ mR, frozen_of_row V _ _ _ _ mR, frozen_of_row V _ _ _ _ mR⟩
  have HST : Hid (∀ (V : World) (x0 x1 x2 x3 : Value), Below W.heap.size W V → Below w.heap.size w ((((V.setCell ⟨w.heap.size + 1 + 1, 0, none⟩ x0).setCell ⟨w.heap.size + 1 + 1, 0 + 1, none⟩ x1).setCell ⟨w.heap.size + 1 + 1, 0 + 2, none⟩ x2).setCell ⟨w.heap.size + 1 + 1, 0 + 3, none⟩ x3)) := fun V x0 x1 x2 x3 hV => (HB.out.trans (hV.mono HB.out.size)).trans ((stores4_below V (w.heap.size + 1 + 1) 0 x0 x1 x2 x3).mono (by omega))
  have HW : Hid (W = _) := hW
  have hC := operated_any op ka na sa aa la ca ta kb nb sb ab lb cb tb W (ra.later hA) (rb.later hA) wa wb hsa hsb
  obtain ⟨RR, hRR⟩ : ∃ r, opD op (mk ka na sa ta) (mk kb nb sb tb) = r := ⟨_, rfl⟩
  rw [hRR] at hC ⊢
  unfold OqRes
  obtain ⟨k, n, s, c⟩ := RR
  rw [hW] at hC
  have HE : Hid (∀ V : World, Below w.heap.size w V → ErrTy V) := fun V hV => hg.later hV
  clear ra rb wa wb hA nA nB nR hW hRR hg
  go_enter Tryd.func8, Tryd.ntmps8
  go_wp2_with fail
  refine hC.mono ?_
  clear hC
  rintro e V ⟨rfl, hV⟩
  rw [← HW.out] at hV
  have HV : Hid (Below W.heap.size W V) := hV
  have nT := heap_alloc_new V (.cells #[.int .i64 k, .int .i64 n, .string s, .slice none 0 0] 28)
  have hVA : Below W.heap.size W (V.alloc (.cells #[.int .i64 k, .int .i64 n, .string s, .slice none 0 0] 28)) := hV.alloc hV.size _
  have hC := ownTerm_any 0 k n s (.slice none 0 0) [] (V.alloc (.cells #[.int .i64 k, .int .i64 n, .string s, .slice none 0 0] 28)) ⟨none, 0, rfl⟩ (by simp [cntL])
  have HVA : Hid (Below W.heap.size W (V.alloc (.cells #[.int .i64 k, .int .i64 n, .string s, .slice none 0 0] 28))) := hVA
  clear hV hVA
  go_wp2_with fail
  refine hC.mono ?_
  clear hC
  rintro e V1 ⟨a', l', c', fp, rfl, hO, hV1⟩
  obtain ⟨⟨a2, c2, h2⟩, _⟩ := hO.out.1
  injection h2 with h3 h4 h5
  subst h3 h4 h5
  have HV1 : Hid (Below W.heap.size W V1) := HVA.out.trans (hV1.mono HVA.out.size)
  clear hO hV1
  have hC := faultCode_any c V1 (HE.out V1 (HB.out.trans (HV1.out.mono HB.out.size)))
  go_wp2_with fail
  refine hC.mono ?_
  clear hC
  rintro e V2 ⟨rfl, hV2⟩
  have HV2 : Hid (Below W.heap.size W V2) := HV1.out.trans (hV2.mono HV1.out.size)
  obtain ⟨⟨r0, r1, r2, r3⟩, z0, z1, z2, z3⟩ := HRB.out V2 HV2.out
  clear hV2
  go_wp2_with fail
  refine bodyPost_ret (v := .tuple #[.agg #[.int .i64 k, .int .i64 n, .string s, .slice a' 0 c'], .int .i64 c]) (by first | (simp [results, Tryd.results8, go_sem, r0, r1, r2, r3]; done) | (simp [results, Tryd.results8, go_sem, r0, r1, r2, r3]; rfl)) rfl ⟨a', c', rfl, HST.out V2 _ _ _ _ HV2.out⟩

end Go.Proofs.YtfegiccjfepnnaaDoor
