/- A struct of the laws as data: Frame; the law's own measure, copy and comparison of it; how it is read. -/
import Derived.Test.YtkkdnkdkelligaaGreatDoorDt0M
import Derived.Test.YtkkdnkdkelligaaGreatDoorOkM
import Derived.Test.YtkkdnkdkelligaaGreatDoorRowFrameM
namespace Go.Proofs.YtkkdnkdkelligaaGreatDoor
open Go.RowKit Go.ChangeShapes Go.WideShapes Go.Joins Go.Deep
set_option linter.unusedVariables false

structure DFrame (d : Nat) where
  F : Int
  Pc : Int
  Slots : List (Tm (d + 1))


def FrameR (d : Nat) (w : World) (vs : List Value) (x : DFrame d) : Prop := ∃ v2, vs = [.int .i64 x.F, .int .i64 x.Pc, v2] ∧ RdL (d + 1) w v2 x.Slots

def FrameO (d : Nat) (w : World) (vs : List Value) (x : DFrame d) (fp : List Nat) : Prop := ∃ v2 f0, vs = [.int .i64 x.F, .int .i64 x.Pc, v2] ∧ fp = f0 ∧ OwnL (d + 1) w v2 x.Slots f0

def WfFrame (d : Nat) (x : DFrame d) : Prop := I64 x.F ∧ I64 x.Pc ∧ WfL (d + 1) x.Slots

def szFrameD (d : Nat) (x : DFrame d) : Nat := szL (d + 1) x.Slots

theorem FrameR.lasts (d : Nat) : Lasts (FrameR d) := by
  rintro w w' vs x ⟨v2, rfl, h0⟩ hb
  exact ⟨v2, rfl, (h0.later hb)⟩

theorem FrameO.lasts (d : Nat) : LastsO (FrameO d) := by
  rintro w w' vs x fp ⟨v2, f0, rfl, rfl, h0⟩ hb
  exact ⟨v2, _, rfl, rfl, h0.frame fun j hj => hb j hj⟩

theorem FrameO.reads (d : Nat) : Reads (FrameO d) (FrameR d) := by
  rintro w vs x fp ⟨v2, f0, rfl, rfl, h0⟩
  exact ⟨v2, rfl, h0.rd⟩

theorem FrameR.shape (d : Nat) : ∀ w vs x, FrameR d w vs x → ShFrame vs := by
  rintro w vs x ⟨v2, rfl, h0⟩
  obtain ⟨q0a2, q0l2, q0c2, rfl⟩ := h0.shape
  exact ⟨_, _, _, _, _, rfl⟩

theorem FrameO.shape (d : Nat) : ∀ w vs x fp, FrameO d w vs x fp → ShFrame vs := fun w vs x fp h => FrameR.shape d w vs x (FrameO.reads d w vs x fp h)

set_option maxHeartbeats 4000000 in
theorem szFrame_any (d : Nat) : SzEl 55 (FrameR d) (WfFrame d) (szFrameD d) := by
  rintro vs x left w ⟨v2, rfl, h0⟩ ⟨wF, wPc, wSlots⟩ hl0 hm
  obtain ⟨a2, l2, c2, rfl⟩ := h0.shape
  obtain ⟨W, hW⟩ : ∃ W, W = w.alloc (Obj.cells #[.int .i64 x.F, .int .i64 x.Pc, .slice a2 l2 c2] 107) := ⟨_, rfl⟩
  have hA : Below w.heap.size w W := by rw [hW]; exact (Below.refl _ _).alloc (Nat.le_refl _) _
  have hWc : W.heap[w.heap.size]? = some (Obj.cells #[.int .i64 x.F, .int .i64 x.Pc, .slice a2 l2 c2] 107 (0, 0)) := by rw [hW]; exact heap_alloc_new w _
  obtain ⟨A2, hA2⟩ : ∃ A, szL (d + 1) x.Slots = A := ⟨_, rfl⟩
  have e0 : szFrameD d x = A2 := by rw [← hA2]; rfl
  rw [e0]
  obtain ⟨TL, hTL⟩ : ∃ L, lft left (A2) = L := ⟨_, rfl⟩
  rw [hTL]
  have H2 : Hid (∀ V : World, Below w.heap.size w V → ∀ l : Int, 0 ≤ l → l ≤ 1048576 → _) := fun V hV l p1 p2 => szTermS_any (d + 1) (.slice a2 l2 c2) x.Slots l V (h0.later hV) wSlots p1 p2
  rw [hA2] at H2
  have HW : Hid (W = _) := hW
  have HT0 : Hid (TL = lft left (A2)) := hTL.symm
  have HB0 : Hid (Below w.heap.size w W ∧ W.heap[w.heap.size]? = some (Obj.cells #[.int .i64 x.F, .int .i64 x.Pc, .slice a2 l2 c2] 107 (0, 0))) := ⟨hA, hWc⟩
  clear e0 hTL hW hA hWc hA2 h0 wSlots
  have hC := H2.out W HB0.out.1 left (by omega) (by omega)
  obtain ⟨y2, hy2⟩ : ∃ y, lft left A2 = y := ⟨_, rfl⟩
  have HL2 : Hid (y2 < 0 → y2 = -1) := fun h => by rw [← hy2] at h ⊢; exact lft_neg _ _ h
  have HM2 : Hid (TL = y2) := HT0.out.trans hy2
  rw [hy2] at hC
  clear hy2
  rw [HW.out] at hC
  go_enter Tryz.func55, Tryz.ntmps55
  go_wp2_with fail
  refine hC.mono ?_
  clear hC
  rintro e w2 ⟨rfl, hb2⟩
  rw [← HW.out] at hb2
  have HB3 : Hid (Below w.heap.size w w2 ∧ w2.heap[w.heap.size]? = some (Obj.cells #[.int .i64 x.F, .int .i64 x.Pc, .slice a2 l2 c2] 107 (0, 0))) := ⟨HB0.out.1.trans (hb2.mono HB0.out.1.size), (hb2.block _ (lt_row HB0.out.2)).trans HB0.out.2⟩
  clear hb2
  by_cases hneg : y2 < 0
  · have HF : Hid ((-1 : Int) = TL) := by show _ = _; rw [HM2.out]; exact (HL2.out (by omega)).symm
    go_wp2
    go_ret
    exact ⟨tret1 HF.out, HB3.out.1⟩
  · have HF : Hid (y2 = TL) := HM2.out.symm
    go_wp2
    go_ret
    exact ⟨tret1 HF.out, HB3.out.1⟩

theorem szFrameS_any (d : Nat) : SzLs 24 3 (FrameR d) (WfFrame d) (szFrameD d) := szFrameS_of _ _ _ (FrameR.lasts d) (FrameR.shape d) (szFrame_any d)

set_option maxHeartbeats 4000000 in
theorem toFrame_any (d : Nat) : ToEl 62 (FrameR d) (FrameO d) (WfFrame d) (szFrameD d) := by
  rintro vs x w ⟨v2, rfl, h0⟩ ⟨wF, wPc, wSlots⟩ hz
  have hz' : szL (d + 1) x.Slots ≤ 1048576 := hz
  obtain ⟨a2, l2, c2, rfl⟩ := h0.shape
  obtain ⟨W, hW⟩ : ∃ W, W = ((w.alloc (Obj.cells #[.int .i64 x.F, .int .i64 x.Pc, .slice a2 l2 c2] 107)).alloc (.cells #[.int .i64 0, .int .i64 0, .slice none 0 0] 61)).alloc (.cells #[.int .i64 x.F, .int .i64 x.Pc, .slice none 0 0] 61) := ⟨_, rfl⟩
  obtain ⟨nA, nB, nC⟩ := heap_three w (Obj.cells #[.int .i64 x.F, .int .i64 x.Pc, .slice a2 l2 c2] 107) (.cells #[.int .i64 0, .int .i64 0, .slice none 0 0] 61) (.cells #[.int .i64 x.F, .int .i64 x.Pc, .slice none 0 0] 61)
  rw [← hW] at nA nB nC
  have hWb : Below w.heap.size w W := by rw [hW]; exact (((Below.refl _ _).alloc (Nat.le_refl _) _).alloc (by simp) _).alloc (by simp; omega) _
  have hWs : W.heap.size = w.heap.size + 1 + 1 + 1 := by rw [hW]; simp
  have H2 : Hid (∀ V : World, Below w.heap.size w V → _) := fun V hV => toTermS_any (d + 1) (.slice a2 l2 c2) x.Slots V (h0.later hV) wSlots (by omega)
  have HW : Hid (W = _) := hW
  have HBW : Hid (Below w.heap.size w W) := hWb
  have HN : Hid (_ ∧ _ ∧ _) := ⟨nA, nB, nC⟩
  clear hW nA nB nC hWb hz hz' h0 wSlots
  have hC := H2.out W HBW.out
  rw [HW.out] at hC
  go_enter Tryz.func62, Tryz.ntmps62
  go_wp2_with fail
  refine hC.mono ?_
  clear hC
  rintro e w2 ⟨ya2, yl2, yc2, fp2, rfl, hown2, hfr2, hb2⟩
  rw [← HW.out] at hfr2 hb2
  obtain ⟨nA, nB, nC⟩ := HN.out
  have zz2 := hb2.size
  have nA2 := (hb2.block _ (lt_row nA)).trans nA
  have nB2 := (hb2.block _ (lt_row nB)).trans nB
  have nC2 := (hb2.block _ (lt_row nC)).trans nC
  have HR2 : Hid (fp2.Nodup ∧ ∀ g ∈ fp2, W.heap.size ≤ g ∧ g < w2.heap.size) := ⟨hfr2.1, hfr2.2⟩
  have HFIN : Hid (∀ Z, Kept (w.heap.size + 1) (w.heap.size + 1 + 1 + 1) w2 Z → FrameO d Z [.int .i64 x.F, .int .i64 x.Pc, .slice ya2 yl2 yc2] x (fp2) ∧ Fresh w.heap.size Z (fp2) ∧ Below w.heap.size w Z) := fun Z hZ => by
    have hzZ := hZ.size
    have hbw : Below w.heap.size w w2 := HBW.out.trans (hb2.mono HBW.out.size)
    have hwz := hbw.size
    have r2 := HR2.out
    refine ⟨⟨_, fp2, rfl, rfl, hown2.frame fun g hg => hZ.block g (r2.2 g hg).2 (.inr (by have := (r2.2 g hg).1; omega))⟩, ⟨?_, fun g hg => ?_⟩, ?_⟩
    · exact r2.1
    · have := r2.2 g hg; omega
    · exact hbw.trans (hZ.below (by omega) hbw.size)
  have g0 : w2.cell? ⟨w.heap.size + 1 + 1, 0, none⟩ = some (.int .i64 x.F) := by rw [cell_of_row w2 _ 0 _ _ _ nC2]; rfl
  have z0 : w2.frozen? ⟨w.heap.size + 1 + 1, 0, none⟩ = false := frozen_of_row w2 _ _ _ _ nC2
  have b0 : w2.cell? ⟨w.heap.size + 1, 0, none⟩ = some (.int .i64 0) := by rw [cell_of_row w2 _ 0 _ _ _ nB2]; rfl
  have u0 : w2.frozen? ⟨w.heap.size + 1, 0, none⟩ = false := frozen_of_row w2 _ _ _ _ nB2
  have g1 : w2.cell? ⟨w.heap.size + 1 + 1, 1, none⟩ = some (.int .i64 x.Pc) := by rw [cell_of_row w2 _ 1 _ _ _ nC2]; rfl
  have z1 : w2.frozen? ⟨w.heap.size + 1 + 1, 1, none⟩ = false := frozen_of_row w2 _ _ _ _ nC2
  have b1 : w2.cell? ⟨w.heap.size + 1, 1, none⟩ = some (.int .i64 0) := by rw [cell_of_row w2 _ 1 _ _ _ nB2]; rfl
  have u1 : w2.frozen? ⟨w.heap.size + 1, 1, none⟩ = false := frozen_of_row w2 _ _ _ _ nB2
  have g2 : w2.cell? ⟨w.heap.size + 1 + 1, 2, none⟩ = some (.slice none 0 0) := by rw [cell_of_row w2 _ 2 _ _ _ nC2]; rfl
  have z2 : w2.frozen? ⟨w.heap.size + 1 + 1, 2, none⟩ = false := frozen_of_row w2 _ _ _ _ nC2
  have b2 : w2.cell? ⟨w.heap.size + 1, 2, none⟩ = some (.slice none 0 0) := by rw [cell_of_row w2 _ 2 _ _ _ nB2]; rfl
  have u2 : w2.frozen? ⟨w.heap.size + 1, 2, none⟩ = false := frozen_of_row w2 _ _ _ _ nB2
  clear nA2 nB2 nC2 nA nB nC hown2 hfr2 hb2 HN
  go_wp2_with fail
  refine bodyPost_ret (v := .agg #[.int .i64 x.F, .int .i64 x.Pc, .slice ya2 yl2 yc2]) (by first | (simp [results, Tryz.results62, go_sem, b0, b1, b2]; done) | (simp [results, Tryz.results62, go_sem, b0, b1, b2]; rfl)) rfl ⟨[.int .i64 x.F, .int .i64 x.Pc, .slice ya2 yl2 yc2], fp2, rfl, HFIN.out _ ?_⟩
  repeat (first | with_reducible exact Kept.refl _ _ _ | with_reducible refine Kept.drew ?_ | (with_reducible refine Kept.set ?_ ?_; omega))

theorem toFrameS_any (d : Nat) : ToLs 31 3 61 (FrameR d) (FrameO d) (WfFrame d) (szFrameD d) := toFrameS_of _ _ _ _ (FrameR.lasts d) (FrameO.lasts d) (FrameR.shape d) (FrameO.shape d) (toFrame_any d)

set_option maxHeartbeats 4000000 in
theorem eqFrame_any (d : Nat) : EqEl 72 (FrameR d) (WfFrame d) := by
  rintro vs1 vs2 x w ⟨v2, rfl, h0⟩ ⟨v2z, rfl, k0⟩ ⟨wF, wPc, wSlots⟩
  obtain ⟨a2, l2, c2, rfl⟩ := h0.shape
  obtain ⟨za2, zl2, zc2, rfl⟩ := k0.shape
  obtain ⟨W, hW⟩ : ∃ W, W = (w.alloc (Obj.cells #[.int .i64 x.F, .int .i64 x.Pc, .slice a2 l2 c2] 61)).alloc (Obj.cells #[.int .i64 x.F, .int .i64 x.Pc, .slice za2 zl2 zc2] 61) := ⟨_, rfl⟩
  have hA : Below w.heap.size w W := by rw [hW]; exact ((Below.refl _ _).alloc (Nat.le_refl _) _).alloc (by simp) _
  have n1 : W.heap[w.heap.size]? = some (Obj.cells #[.int .i64 x.F, .int .i64 x.Pc, .slice a2 l2 c2] 61 (0, 0)) := by rw [hW, Below.heap_alloc _ _ _ (by simp)]; exact heap_alloc_new w _
  have n2 : W.heap[w.heap.size + 1]? = some (Obj.cells #[.int .i64 x.F, .int .i64 x.Pc, .slice za2 zl2 zc2] 61 (0, 0)) := by rw [hW]; have := heap_alloc_new (w.alloc (Obj.cells #[.int .i64 x.F, .int .i64 x.Pc, .slice a2 l2 c2] 61)) (Obj.cells #[.int .i64 x.F, .int .i64 x.Pc, .slice za2 zl2 zc2] 61); simpa using this
  have H2 : Hid (∀ V : World, Below w.heap.size w V → _) := fun V hV => eqTermS_any (d + 1) (.slice a2 l2 c2) (.slice za2 zl2 zc2) x.Slots V (h0.later hV) (k0.later hV) wSlots
  have HW : Hid (W = _) := hW
  have HN : Hid (Below w.heap.size w W ∧ _ ∧ _) := ⟨hA, n1, n2⟩
  clear n1 n2 h0 k0 wSlots
  clear hA
  have hC := H2.out W HN.out.1
  rw [hW] at hC
  clear hW
  go_enter Tryz.func72, Tryz.ntmps72
  go_wp2_with fail
  refine hC.mono ?_
  clear hC
  rintro e w2 ⟨rfl, hb2⟩
  rw [← HW.out] at hb2
  have HN2 : Hid (Below w.heap.size w w2 ∧ _ ∧ _) := ⟨HN.out.1.trans (hb2.mono HN.out.1.size), (hb2.block _ (lt_row HN.out.2.1)).trans HN.out.2.1, (hb2.block _ (lt_row HN.out.2.2)).trans HN.out.2.2⟩
  clear hb2
  go_wp2
  go_ret
  exact ⟨rfl, HN2.out.1⟩

theorem eqFrameS_any (d : Nat) : EqLs 39 3 (FrameR d) (WfFrame d) := eqFrameS_of _ _ (FrameR.lasts d) (FrameR.shape d) (eqFrame_any d)

theorem Frame_at {d n c : Nat} {w : World} {a : Option Addr} {m : List (DFrame d)} (h : RowOf 3 (FrameR d) w (.slice a n c) m) (i : Nat) (x : (DFrame d)) (hx : m[i]? = some x) : ∃ (b o : Nat) (a2 : Option Addr) (c2 : Nat), a = some ⟨b, o, none⟩ ∧ w.cell? ⟨b, o + i * 3, none⟩ = some (.int .i64 x.F) ∧ w.cell? ⟨b, o + i * 3 + 1, none⟩ = some (.int .i64 x.Pc) ∧ w.cell? ⟨b, o + i * 3 + 2, none⟩ = some (.slice a2 x.Slots.length c2) ∧ RdL (d + 1) w (.slice a2 x.Slots.length c2) x.Slots := by
  obtain ⟨a', c', e, hel⟩ := h
  cases e
  obtain ⟨b, o, vs, h2, h3, h4, v2, rfl, g0⟩ := hel i x hx
  obtain ⟨a2, c2, rfl⟩ := RdL.len1 g0
  exact ⟨b, o, a2, c2, h2, h4 0 _ rfl, h4 1 _ rfl, h4 2 _ rfl, g0⟩

theorem Tryz.cellsFrame : Tryz.prog.cellsOf 107 = 3 := by kernel_rfl
theorem Tryz.cellsFrames : Tryz.prog.cellsOf 26 = 1 := by kernel_rfl
section
variable {H : Type} {enc : TypeId × Value → H} {W : World} {base : Nat} {spare : Nat → Bool} {held : Bool}

set_option maxRecDepth 100000 in
theorem read_FrameC (m d : Nat) (hd : m ≤ d) (cs : List Value) (x : DataW H × List MemPlace) (h : DataW.trod enc Tryz.prog W base spare held m 107 cs = some x) (hl : cs.length = 3) : ∃ f : DFrame d, FrameR d W cs f ∧ WfFrame d f := by
  obtain ⟨c0, c1, c2, rfl⟩ : ∃ c0 c1 c2, cs = [c0, c1, c2] := by
    match cs, hl with
    | [c0, c1, c2], _ => exact ⟨c0, c1, c2, rfl⟩
  obtain ⟨xs, m, rfl, _, _, hxl, hf⟩ := DataW.trod_struct Tryz.underlying107 h
  have hxl' : xs.length = 3 := hxl
  have h0 : DataW.trod enc Tryz.prog W base spare held m 3 [c0] = xs[0]? := by have := hf 0 _ rfl; simpa [Tryz.cells3, Tryz.cellsTerms] using this
  have h1 : DataW.trod enc Tryz.prog W base spare held m 3 [c1] = xs[1]? := by have := hf 1 _ rfl; simpa [Tryz.cells3, Tryz.cellsTerms] using this
  have h2 : DataW.trod enc Tryz.prog W base spare held m 27 [c2] = xs[2]? := by have := hf 2 _ rfl; simpa [Tryz.cells3, Tryz.cellsTerms] using this
  rw [List.getElem?_eq_getElem (by omega)] at h0 h1 h2
  obtain ⟨x0, e0, _, q0⟩ := DataW.trod_int Tryz.underlying3 h0
  obtain ⟨x1, e1, _, q1⟩ := DataW.trod_int Tryz.underlying3 h1
  simp only [List.cons.injEq, and_true] at e0 e1
  subst e0 e1
  obtain ⟨x2, r2, q2⟩ := read_terms m (d + 1) (by omega) _ _ h2
  exact ⟨⟨x0, x1, x2⟩, ⟨_, rfl, r2⟩, bounds_i64 q0, bounds_i64 q1, q2⟩

theorem read_Frames {m d : Nat} (hd : m ≤ d) {v : Value} {x : DataW H × List MemPlace} (h : DataW.trod enc Tryz.prog W base spare held m 26 [v] = some x) : ∃ l : List (DFrame d), RowOf 3 (FrameR d) W v l ∧ WfRow (WfFrame d) l :=
  read_row (R := FrameR d) (P := WfFrame d) Tryz.underlying26 Tryz.cellsFrame (by omega) (fun n hn cs x hx hl => read_FrameC n d (by omega) cs x hx hl) h

set_option maxRecDepth 100000 in
theorem read_Frame {r : Reach} {b0 : Nat} {v : Value} {x : DataW H} {p : List MemPlace} (hv : Value.okWide Tryz.prog W r b0 107 v) (h : DataW.Trod enc Tryz.prog W base spare held 107 v x p) :
    ∃ M, ∀ d, M ≤ d → ∃ (vs : List Value) (e : DFrame d), v = .agg vs.toArray ∧ FrameR d W vs e ∧ WfFrame d e := by
  obtain ⟨cs, rfl, hsz⟩ := okWide_struct Tryz.underlying107 hv
  obtain ⟨fuel, hf⟩ := h
  have hf' : DataW.trod enc Tryz.prog W base spare held fuel 107 cs.toList = some (x, p) := hf
  refine ⟨fuel, fun d hd => ?_⟩
  obtain ⟨e, h1, h2⟩ := read_FrameC fuel d hd cs.toList _ hf' (by have := hsz.trans Tryz.cellsFrame; simpa using this)
  exact ⟨cs.toList, e, by simp, h1, h2⟩
end

end Go.Proofs.YtkkdnkdkelligaaGreatDoor

/- A struct of the laws as data: Vm; the law's own measure, copy and comparison of it; how it is read. -/
namespace Go.Proofs.YtkkdnkdkelligaaGreatDoor
open Go.RowKit Go.ChangeShapes Go.WideShapes Go.Joins Go.Deep
set_option linter.unusedVariables false

structure DVm (d : Nat) where
  Frames : List (DFrame d)
  Stack : List (Tm (d + 1))


def VmR (d : Nat) (w : World) (vs : List Value) (x : DVm d) : Prop := ∃ v0 v1, vs = [v0, v1] ∧ RowOf 3 (FrameR d) w v0 x.Frames ∧ RdL (d + 1) w v1 x.Stack

def VmO (d : Nat) (w : World) (vs : List Value) (x : DVm d) (fp : List Nat) : Prop := ∃ v0 v1 f0 f1, vs = [v0, v1] ∧ fp = f0 ++ (f1) ∧ OwnRow 3 61 (FrameO d) w v0 x.Frames f0 ∧ OwnL (d + 1) w v1 x.Stack f1

def WfVm (d : Nat) (x : DVm d) : Prop := WfRow (WfFrame d) x.Frames ∧ WfL (d + 1) x.Stack

def szVmD (d : Nat) (x : DVm d) : Nat := szRow (szFrameD d) x.Frames + (szL (d + 1) x.Stack)

def ShVm (vs : List Value) : Prop := ∃ (a0 : Option Addr) (l0 c0 : Nat) (a1 : Option Addr) (l1 c1 : Nat), vs = [.slice a0 l0 c0, .slice a1 l1 c1]

theorem VmR.lasts (d : Nat) : Lasts (VmR d) := by
  rintro w w' vs x ⟨v0, v1, rfl, h0, h1⟩ hb
  exact ⟨v0, v1, rfl, (h0.later (FrameR.lasts d) hb), (h1.later hb)⟩

theorem VmO.lasts (d : Nat) : LastsO (VmO d) := by
  rintro w w' vs x fp ⟨v0, v1, f0, f1, rfl, rfl, h0, h1⟩ hb
  exact ⟨v0, v1, _, _, rfl, rfl, h0.frame (FrameO.lasts d) fun j hj => hb j (List.mem_append_left _ hj), h1.frame fun j hj => hb j (List.mem_append_right _ (hj))⟩

theorem VmO.reads (d : Nat) : Reads (VmO d) (VmR d) := by
  rintro w vs x fp ⟨v0, v1, f0, f1, rfl, rfl, h0, h1⟩
  exact ⟨v0, v1, rfl, (h0.rd (FrameO.reads d)), h1.rd⟩

theorem VmR.shape (d : Nat) : ∀ w vs x, VmR d w vs x → ShVm vs := by
  rintro w vs x ⟨v0, v1, rfl, h0, h1⟩
  obtain ⟨q0a0, q0l0, q0c0, rfl⟩ := h0.sl
  obtain ⟨q1a1, q1l1, q1c1, rfl⟩ := h1.shape
  exact ⟨_, _, _, _, _, _, rfl⟩

theorem VmO.shape (d : Nat) : ∀ w vs x fp, VmO d w vs x fp → ShVm vs := fun w vs x fp h => VmR.shape d w vs x (VmO.reads d w vs x fp h)

set_option maxHeartbeats 4000000 in
theorem szVm_any (d : Nat) : SzEl 6 (VmR d) (WfVm d) (szVmD d) := by
  rintro vs x left w ⟨v0, v1, rfl, h0, h1⟩ ⟨wFrames, wStack⟩ hl0 hm
  obtain ⟨a0, l0, c0, rfl⟩ := h0.sl
  obtain ⟨a1, l1, c1, rfl⟩ := h1.shape
  obtain ⟨W, hW⟩ : ∃ W, W = w.alloc (Obj.cells #[.slice a0 l0 c0, .slice a1 l1 c1] 29) := ⟨_, rfl⟩
  have hA : Below w.heap.size w W := by rw [hW]; exact (Below.refl _ _).alloc (Nat.le_refl _) _
  have hWc : W.heap[w.heap.size]? = some (Obj.cells #[.slice a0 l0 c0, .slice a1 l1 c1] 29 (0, 0)) := by rw [hW]; exact heap_alloc_new w _
  obtain ⟨A0, hA0⟩ : ∃ A, szRow (szFrameD d) x.Frames = A := ⟨_, rfl⟩
  obtain ⟨A1, hA1⟩ : ∃ A, szL (d + 1) x.Stack = A := ⟨_, rfl⟩
  have e0 : szVmD d x = A0 + (A1) := by rw [← hA0]; rw [← hA1]; rfl
  rw [e0]
  obtain ⟨TL, hTL⟩ : ∃ L, lft left (A0 + (A1)) = L := ⟨_, rfl⟩
  rw [hTL]
  have H0 : Hid (∀ V : World, Below w.heap.size w V → ∀ l : Int, 0 ≤ l → l ≤ 1048576 → _) := fun V hV l p1 p2 => szFrameS_any d (.slice a0 l0 c0) x.Frames l V (h0.later (FrameR.lasts d) hV) wFrames p1 p2
  rw [hA0] at H0
  have H1 : Hid (∀ V : World, Below w.heap.size w V → ∀ l : Int, 0 ≤ l → l ≤ 1048576 → _) := fun V hV l p1 p2 => szTermS_any (d + 1) (.slice a1 l1 c1) x.Stack l V (h1.later hV) wStack p1 p2
  rw [hA1] at H1
  have HW : Hid (W = _) := hW
  have HT0 : Hid (TL = lft left (A0 + (A1))) := hTL.symm
  have HB0 : Hid (Below w.heap.size w W ∧ W.heap[w.heap.size]? = some (Obj.cells #[.slice a0 l0 c0, .slice a1 l1 c1] 29 (0, 0))) := ⟨hA, hWc⟩
  clear e0 hTL hW hA hWc hA0 h0 wFrames hA1 h1 wStack
  have hC := H0.out W HB0.out.1 left (by omega) (by omega)
  obtain ⟨y0, hy0⟩ : ∃ y, lft left A0 = y := ⟨_, rfl⟩
  have HL0 : Hid (_ ∧ _) := lft_two left A0 (A1) (by omega)
  rw [hy0] at hC HL0
  clear hy0
  rw [HW.out] at hC
  go_enter Tryz.func6, Tryz.ntmps6
  go_wp2_with fail
  refine hC.mono ?_
  clear hC
  rintro e w0 ⟨rfl, hb0⟩
  rw [← HW.out] at hb0
  have HB1 : Hid (Below w.heap.size w w0 ∧ w0.heap[w.heap.size]? = some (Obj.cells #[.slice a0 l0 c0, .slice a1 l1 c1] 29 (0, 0))) := ⟨HB0.out.1.trans (hb0.mono HB0.out.1.size), (hb0.block _ (lt_row HB0.out.2)).trans HB0.out.2⟩
  clear hb0
  by_cases hneg : y0 < 0
  · have HF : Hid ((-1 : Int) = TL) := by show _ = _; rw [HT0.out]; exact (HL0.out.1 (by omega)).symm
    go_wp2
    go_ret
    exact ⟨tret1 HF.out, HB1.out.1⟩
  · obtain ⟨E1, E2, E3⟩ := HL0.out.2 (by omega)
    have HT1 : Hid (TL = lft y0 (A1)) := by show _ = _; rw [HT0.out]; exact E1.symm
    have hm0 : y0 ≤ 1048576 := by omega
    clear E1
    have f1 : w0.cell? ⟨w.heap.size, 1, none⟩ = some (.slice a1 l1 c1) := by rw [cell_of_row w0 _ 1 _ _ _ HB1.out.2]; rfl
    have hC := H1.out w0 HB1.out.1 y0 (by omega) (by omega)
    obtain ⟨y1, hy1⟩ : ∃ y, lft y0 A1 = y := ⟨_, rfl⟩
    have HL1 : Hid (y1 < 0 → y1 = -1) := fun h => by rw [← hy1] at h ⊢; exact lft_neg _ _ h
    have HM1 : Hid (TL = y1) := HT1.out.trans hy1
    rw [hy1] at hC
    clear hy1
    go_wp2_with fail
    refine hC.mono ?_
    clear hC
    rintro e w1 ⟨rfl, hb1⟩
    have HB2 : Hid (Below w.heap.size w w1 ∧ w1.heap[w.heap.size]? = some (Obj.cells #[.slice a0 l0 c0, .slice a1 l1 c1] 29 (0, 0))) := ⟨HB1.out.1.trans (hb1.mono HB1.out.1.size), (hb1.block _ (lt_row HB1.out.2)).trans HB1.out.2⟩
    clear hb1
    by_cases hneg : y1 < 0
    · have HF : Hid ((-1 : Int) = TL) := by show _ = _; rw [HM1.out]; exact (HL1.out (by omega)).symm
      go_wp2
      go_ret
      exact ⟨tret1 HF.out, HB2.out.1⟩
    · have HF : Hid (y1 = TL) := HM1.out.symm
      go_wp2
      go_ret
      exact ⟨tret1 HF.out, HB2.out.1⟩

set_option maxHeartbeats 4000000 in
theorem toVm_any (d : Nat) : ToEl 9 (VmR d) (VmO d) (WfVm d) (szVmD d) := by
  rintro vs x w ⟨v0, v1, rfl, h0, h1⟩ ⟨wFrames, wStack⟩ hz
  have hz' : szRow (szFrameD d) x.Frames + (szL (d + 1) x.Stack) ≤ 1048576 := hz
  obtain ⟨a0, l0, c0, rfl⟩ := h0.sl
  obtain ⟨a1, l1, c1, rfl⟩ := h1.shape
  obtain ⟨W, hW⟩ : ∃ W, W = ((w.alloc (Obj.cells #[.slice a0 l0 c0, .slice a1 l1 c1] 29)).alloc (.cells #[.slice none 0 0, .slice none 0 0] 41)).alloc (.cells #[.slice none 0 0, .slice none 0 0] 41) := ⟨_, rfl⟩
  obtain ⟨nA, nB, nC⟩ := heap_three w (Obj.cells #[.slice a0 l0 c0, .slice a1 l1 c1] 29) (.cells #[.slice none 0 0, .slice none 0 0] 41) (.cells #[.slice none 0 0, .slice none 0 0] 41)
  rw [← hW] at nA nB nC
  have hWb : Below w.heap.size w W := by rw [hW]; exact (((Below.refl _ _).alloc (Nat.le_refl _) _).alloc (by simp) _).alloc (by simp; omega) _
  have hWs : W.heap.size = w.heap.size + 1 + 1 + 1 := by rw [hW]; simp
  have H0 : Hid (∀ V : World, Below w.heap.size w V → _) := fun V hV => toFrameS_any d (.slice a0 l0 c0) x.Frames V (h0.later (FrameR.lasts d) hV) wFrames (by omega)
  have H1 : Hid (∀ V : World, Below w.heap.size w V → _) := fun V hV => toTermS_any (d + 1) (.slice a1 l1 c1) x.Stack V (h1.later hV) wStack (by omega)
  have HW : Hid (W = _) := hW
  have HBW : Hid (Below w.heap.size w W) := hWb
  have HN : Hid (_ ∧ _ ∧ _) := ⟨nA, nB, nC⟩
  clear hW nA nB nC hWb hz hz' h0 wFrames h1 wStack
  have hC := H0.out W HBW.out
  rw [HW.out] at hC
  go_enter Tryz.func9, Tryz.ntmps9
  go_wp2_with fail
  refine hC.mono ?_
  clear hC
  rintro e w0 ⟨ya0, yl0, yc0, fp0, rfl, hown0, hfr0, hb0⟩
  rw [← HW.out] at hfr0 hb0
  obtain ⟨nA, nB, nC⟩ := HN.out
  have zz0 := hb0.size
  have nA0 := (hb0.block _ (lt_row nA)).trans nA
  have nB0 := (hb0.block _ (lt_row nB)).trans nB
  have nC0 := (hb0.block _ (lt_row nC)).trans nC
  obtain ⟨V0, hV0⟩ : ∃ V, V = w0.setCell ⟨w.heap.size + 1 + 1, 0, none⟩ (.slice ya0 yl0 yc0) := ⟨_, rfl⟩
  have hV0' : V0 = setL w0 (w.heap.size + 1 + 1) 0 [.slice ya0 yl0 yc0] := hV0
  have hzV0 : V0.heap.size = w0.heap.size := by rw [hV0']; exact setL_size _ _ _ _
  have hkV : ∀ j, j ≠ w.heap.size + 1 + 1 → V0.heap[j]? = w0.heap[j]? := fun j hj => by rw [hV0']; exact setL_other _ _ _ _ _ hj
  have hbV : Below (w.heap.size + 1 + 1) w0 V0 := by rw [hV0']; exact setL_below _ _ _ _ _ (Nat.le_refl _)
  have nCV : V0.heap[w.heap.size + 1 + 1]? = some (.cells #[.slice ya0 yl0 yc0, .slice none 0 0] 41 (0, 0)) := by rw [hV0']; exact setL_row _ _ _ _ _ _ nC0
  have HN0 : Hid (_ ∧ _ ∧ _) := ⟨(hkV _ (by omega)).trans nA0, (hkV _ (by omega)).trans nB0, nCV⟩
  have HB0 : Hid (Below w.heap.size w V0) := (HBW.out.trans (hb0.mono HBW.out.size)).trans (hbV.mono (by omega))
  have HO0 : Hid (OwnRow 3 61 (FrameO d) V0 (.slice ya0 yl0 yc0) x.Frames fp0) := hown0.frame (FrameO.lasts d) fun g hg => hkV g (by have := (hfr0.2 g hg).1; omega)
  have HR0 : Hid (fp0.Nodup ∧ ∀ g ∈ fp0, W.heap.size ≤ g ∧ g < w0.heap.size) := ⟨hfr0.1, hfr0.2⟩
  have hC := H1.out V0 HB0.out
  rw [hV0] at hC
  have HV0 : Hid (V0 = _) := hV0
  have f1 : w0.cell? ⟨w.heap.size, 1, none⟩ = some (.slice a1 l1 c1) := by rw [cell_of_row w0 _ 1 _ _ _ nA0]; rfl
  have g0 : w0.cell? ⟨w.heap.size + 1 + 1, 0, none⟩ = some (.slice none 0 0) := by rw [cell_of_row w0 _ 0 _ _ _ nC0]; rfl
  have z0 : w0.frozen? ⟨w.heap.size + 1 + 1, 0, none⟩ = false := frozen_of_row w0 _ _ _ _ nC0
  clear hV0 hV0' nA0 nB0 nC0 nA nB nC nCV hkV hbV hown0 hfr0 hb0 HN
  go_wp2_with fail
  refine hC.mono ?_
  clear hC f1 g0 z0
  rintro e w1 ⟨ya1, yl1, yc1, fp1, rfl, hown1, hfr1, hb1⟩
  rw [← HV0.out] at hfr1 hb1
  obtain ⟨nA, nB, nC⟩ := HN0.out
  have zz1 := hb1.size
  have nA1 := (hb1.block _ (lt_row nA)).trans nA
  have nB1 := (hb1.block _ (lt_row nB)).trans nB
  have nC1 := (hb1.block _ (lt_row nC)).trans nC
  have HR1 : Hid (fp1.Nodup ∧ ∀ g ∈ fp1, V0.heap.size ≤ g ∧ g < w1.heap.size) := ⟨hfr1.1, hfr1.2⟩
  have HFIN : Hid (∀ Z, Kept (w.heap.size + 1) (w.heap.size + 1 + 1 + 1) w1 Z → VmO d Z [.slice ya0 yl0 yc0, .slice ya1 yl1 yc1] x (fp0 ++ (fp1)) ∧ Fresh w.heap.size Z (fp0 ++ (fp1)) ∧ Below w.heap.size w Z) := fun Z hZ => by
    have hzZ := hZ.size
    have hbw : Below w.heap.size w w1 := HB0.out.trans (hb1.mono HB0.out.size)
    have hwz := hbw.size
    have r0 := HR0.out
    have r1 := HR1.out
    refine ⟨⟨_, _, fp0, fp1, rfl, rfl, HO0.out.frame (FrameO.lasts d) fun g hg => (hZ.block g (by have := (r0.2 g hg).2; omega) (.inr (by have := (r0.2 g hg).1; omega))).trans (hb1.block g (by have := (r0.2 g hg).2; omega)), hown1.frame fun g hg => hZ.block g (r1.2 g hg).2 (.inr (by have := (r1.2 g hg).1; omega))⟩, ⟨?_, fun g hg => ?_⟩, ?_⟩
    · exact List.nodup_append.2 ⟨r0.1, r1.1, fun a ha b hb e => by subst e; have h1 := r0.2 a ha; have h2 := r1.2 a hb; omega⟩
    · simp only [List.mem_append] at hg
      rcases hg with hg | hg <;> first | (have h2 := r0.2 g hg; omega) | (have h2 := r1.2 g hg; omega)
    · exact hbw.trans (hZ.below (by omega) hbw.size)
  have g0 : w1.cell? ⟨w.heap.size + 1 + 1, 0, none⟩ = some (.slice ya0 yl0 yc0) := by rw [cell_of_row w1 _ 0 _ _ _ nC1]; rfl
  have z0 : w1.frozen? ⟨w.heap.size + 1 + 1, 0, none⟩ = false := frozen_of_row w1 _ _ _ _ nC1
  have b0 : w1.cell? ⟨w.heap.size + 1, 0, none⟩ = some (.slice none 0 0) := by rw [cell_of_row w1 _ 0 _ _ _ nB1]; rfl
  have u0 : w1.frozen? ⟨w.heap.size + 1, 0, none⟩ = false := frozen_of_row w1 _ _ _ _ nB1
  have g1 : w1.cell? ⟨w.heap.size + 1 + 1, 1, none⟩ = some (.slice none 0 0) := by rw [cell_of_row w1 _ 1 _ _ _ nC1]; rfl
  have z1 : w1.frozen? ⟨w.heap.size + 1 + 1, 1, none⟩ = false := frozen_of_row w1 _ _ _ _ nC1
  have b1 : w1.cell? ⟨w.heap.size + 1, 1, none⟩ = some (.slice none 0 0) := by rw [cell_of_row w1 _ 1 _ _ _ nB1]; rfl
  have u1 : w1.frozen? ⟨w.heap.size + 1, 1, none⟩ = false := frozen_of_row w1 _ _ _ _ nB1
  clear nA1 nB1 nC1 nA nB nC hown1 hfr1 hb1 HN0
  go_wp2_with fail
  refine bodyPost_ret (v := .agg #[.slice ya0 yl0 yc0, .slice ya1 yl1 yc1]) (by first | (simp [results, Tryz.results9, go_sem, b0, b1]; done) | (simp [results, Tryz.results9, go_sem, b0, b1]; rfl)) rfl ⟨[.slice ya0 yl0 yc0, .slice ya1 yl1 yc1], fp0 ++ (fp1), rfl, HFIN.out _ ?_⟩
  repeat (first | with_reducible exact Kept.refl _ _ _ | with_reducible refine Kept.drew ?_ | (with_reducible refine Kept.set ?_ ?_; omega))

set_option maxHeartbeats 4000000 in
theorem eqVm_any (d : Nat) : EqEl 12 (VmR d) (WfVm d) := by
  rintro vs1 vs2 x w ⟨v0, v1, rfl, h0, h1⟩ ⟨v0z, v1z, rfl, k0, k1⟩ ⟨wFrames, wStack⟩
  obtain ⟨a0, l0, c0, rfl⟩ := h0.sl
  obtain ⟨a1, l1, c1, rfl⟩ := h1.shape
  obtain ⟨za0, zl0, zc0, rfl⟩ := k0.sl
  obtain ⟨za1, zl1, zc1, rfl⟩ := k1.shape
  obtain ⟨W, hW⟩ : ∃ W, W = (w.alloc (Obj.cells #[.slice a0 l0 c0, .slice a1 l1 c1] 41)).alloc (Obj.cells #[.slice za0 zl0 zc0, .slice za1 zl1 zc1] 41) := ⟨_, rfl⟩
  have hA : Below w.heap.size w W := by rw [hW]; exact ((Below.refl _ _).alloc (Nat.le_refl _) _).alloc (by simp) _
  have n1 : W.heap[w.heap.size]? = some (Obj.cells #[.slice a0 l0 c0, .slice a1 l1 c1] 41 (0, 0)) := by rw [hW, Below.heap_alloc _ _ _ (by simp)]; exact heap_alloc_new w _
  have n2 : W.heap[w.heap.size + 1]? = some (Obj.cells #[.slice za0 zl0 zc0, .slice za1 zl1 zc1] 41 (0, 0)) := by rw [hW]; have := heap_alloc_new (w.alloc (Obj.cells #[.slice a0 l0 c0, .slice a1 l1 c1] 41)) (Obj.cells #[.slice za0 zl0 zc0, .slice za1 zl1 zc1] 41); simpa using this
  have H0 : Hid (∀ V : World, Below w.heap.size w V → _) := fun V hV => eqFrameS_any d (.slice a0 l0 c0) (.slice za0 zl0 zc0) x.Frames V (h0.later (FrameR.lasts d) hV) (k0.later (FrameR.lasts d) hV) wFrames
  have H1 : Hid (∀ V : World, Below w.heap.size w V → _) := fun V hV => eqTermS_any (d + 1) (.slice a1 l1 c1) (.slice za1 zl1 zc1) x.Stack V (h1.later hV) (k1.later hV) wStack
  have HW : Hid (W = _) := hW
  have HN : Hid (Below w.heap.size w W ∧ _ ∧ _) := ⟨hA, n1, n2⟩
  clear n1 n2 h0 k0 wFrames h1 k1 wStack
  clear hA
  have hC := H0.out W HN.out.1
  rw [hW] at hC
  clear hW
  go_enter Tryz.func12, Tryz.ntmps12
  go_wp2_with fail
  refine hC.mono ?_
  clear hC
  rintro e w0 ⟨rfl, hb0⟩
  rw [← HW.out] at hb0
  have HN0 : Hid (Below w.heap.size w w0 ∧ _ ∧ _) := ⟨HN.out.1.trans (hb0.mono HN.out.1.size), (hb0.block _ (lt_row HN.out.2.1)).trans HN.out.2.1, (hb0.block _ (lt_row HN.out.2.2)).trans HN.out.2.2⟩
  clear hb0
  have f1 : w0.cell? ⟨w.heap.size, 1, none⟩ = some (.slice a1 l1 c1) := by rw [cell_of_row w0 _ 1 _ _ _ HN0.out.2.1]; rfl
  have g1 : w0.cell? ⟨w.heap.size + 1, 1, none⟩ = some (.slice za1 zl1 zc1) := by rw [cell_of_row w0 _ 1 _ _ _ HN0.out.2.2]; rfl
  have hC := H1.out w0 HN0.out.1
  go_wp2_with fail
  refine hC.mono ?_
  clear hC f1 g1
  rintro e w1 ⟨rfl, hb1⟩
  have HN1 : Hid (Below w.heap.size w w1 ∧ _ ∧ _) := ⟨HN0.out.1.trans (hb1.mono HN0.out.1.size), (hb1.block _ (lt_row HN0.out.2.1)).trans HN0.out.2.1, (hb1.block _ (lt_row HN0.out.2.2)).trans HN0.out.2.2⟩
  clear hb1
  go_wp2
  go_ret
  exact ⟨rfl, HN1.out.1⟩

theorem Tryz.cellsVm : Tryz.prog.cellsOf 29 = 2 := by kernel_rfl
section
variable {H : Type} {enc : TypeId × Value → H} {W : World} {base : Nat} {spare : Nat → Bool} {held : Bool}

set_option maxRecDepth 100000 in
theorem read_VmC (m d : Nat) (hd : m ≤ d) (cs : List Value) (x : DataW H × List MemPlace) (h : DataW.trod enc Tryz.prog W base spare held m 29 cs = some x) (hl : cs.length = 2) : ∃ f : DVm d, VmR d W cs f ∧ WfVm d f := by
  obtain ⟨c0, c1, rfl⟩ : ∃ c0 c1, cs = [c0, c1] := by
    match cs, hl with
    | [c0, c1], _ => exact ⟨c0, c1, rfl⟩
  obtain ⟨xs, m, rfl, _, _, hxl, hf⟩ := DataW.trod_struct Tryz.underlying29 h
  have hxl' : xs.length = 2 := hxl
  have h0 : DataW.trod enc Tryz.prog W base spare held m 26 [c0] = xs[0]? := by have := hf 0 _ rfl; simpa [Tryz.cellsFrames, Tryz.cellsTerms] using this
  have h1 : DataW.trod enc Tryz.prog W base spare held m 27 [c1] = xs[1]? := by have := hf 1 _ rfl; simpa [Tryz.cellsFrames, Tryz.cellsTerms] using this
  rw [List.getElem?_eq_getElem (by omega)] at h0 h1
  obtain ⟨x0, r0, q0⟩ := read_row (R := (FrameR d)) (P := (WfFrame d)) Tryz.underlying26 Tryz.cellsFrame (by omega) (fun n hn cs x hx hl => read_FrameC n d (by omega) cs x hx hl) h0
  obtain ⟨x1, r1, q1⟩ := read_terms m (d + 1) (by omega) _ _ h1
  exact ⟨⟨x0, x1⟩, ⟨_, _, rfl, r0, r1⟩, q0, q1⟩

set_option maxRecDepth 100000 in
theorem read_Vm {r : Reach} {b0 : Nat} {v : Value} {x : DataW H} {p : List MemPlace} (hv : Value.okWide Tryz.prog W r b0 29 v) (h : DataW.Trod enc Tryz.prog W base spare held 29 v x p) :
    ∃ M, ∀ d, M ≤ d → ∃ (vs : List Value) (e : DVm d), v = .agg vs.toArray ∧ VmR d W vs e ∧ WfVm d e := by
  obtain ⟨cs, rfl, hsz⟩ := okWide_struct Tryz.underlying29 hv
  obtain ⟨fuel, hf⟩ := h
  have hf' : DataW.trod enc Tryz.prog W base spare held fuel 29 cs.toList = some (x, p) := hf
  refine ⟨fuel, fun d hd => ?_⟩
  obtain ⟨e, h1, h2⟩ := read_VmC fuel d hd cs.toList _ hf' (by have := hsz.trans Tryz.cellsVm; simpa using this)
  exact ⟨cs.toList, e, by simp, h1, h2⟩
end

end Go.Proofs.YtkkdnkdkelligaaGreatDoor
