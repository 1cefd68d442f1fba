/- A struct of the laws as data: Code; the law's own measure, copy and comparison of it; how it is read. -/
import Derived.Test.YtfachfimdenapaaDoorTmM
import Derived.Test.YtfachfimdenapaaDoorXm2M
import Derived.Test.YtfachfimdenapaaDoorDtFnM
import Derived.Test.YtfachfimdenapaaDoorDtPatM
namespace Go.Proofs.YtfachfimdenapaaDoor
open Go.RowKit Go.ChangeShapes Go.WideShapes Go.Joins Go.Deep
set_option linter.unusedVariables false

structure DCode (d : Nat) where
  Fns : List DFn
  Pats : List (Tm d)


def CodeR (d : Nat) (w : World) (vs : List Value) (x : DCode d) : Prop := ∃ v0 v1, vs = [v0, v1] ∧ RowOf 4 FnR w v0 x.Fns ∧ RowOf 4 (PatR d) w v1 x.Pats

def CodeO (d : Nat) (w : World) (vs : List Value) (x : DCode d) (fp : List Nat) : Prop := ∃ v0 v1 f0 f1, vs = [v0, v1] ∧ fp = f0 ++ (f1) ∧ OwnRow 4 45 FnO w v0 x.Fns f0 ∧ OwnRow 4 51 (PatO d) w v1 x.Pats f1

def WfCode (d : Nat) (x : DCode d) : Prop := WfRow WfFn x.Fns ∧ WfRow (WfPat d) x.Pats

def szCodeD (d : Nat) (x : DCode d) : Nat := szRow szFnD x.Fns + (szRow (szPatD d) x.Pats)

def ShCode (vs : List Value) : Prop := ∃ (a0 : Option Addr) (l0 c0 : Nat) (a1 : Option Addr) (l1 c1 : Nat), vs = [.slice a0 l0 c0, .slice a1 l1 c1]

theorem CodeR.lasts (d : Nat) : Lasts (CodeR d) := by
  rintro w w' vs x ⟨v0, v1, rfl, h0, h1⟩ hb
  exact ⟨v0, v1, rfl, (h0.later FnR.lasts hb), (h1.later (PatR.lasts d) hb)⟩

theorem CodeO.lasts (d : Nat) : LastsO (CodeO d) := by
  rintro w w' vs x fp ⟨v0, v1, f0, f1, rfl, rfl, h0, h1⟩ hb
  exact ⟨v0, v1, _, _, rfl, rfl, h0.frame FnO.lasts fun j hj => hb j (List.mem_append_left _ hj), h1.frame (PatO.lasts d) fun j hj => hb j (List.mem_append_right _ (hj))⟩

theorem CodeO.reads (d : Nat) : Reads (CodeO d) (CodeR d) := by
  rintro w vs x fp ⟨v0, v1, f0, f1, rfl, rfl, h0, h1⟩
  exact ⟨v0, v1, rfl, (h0.rd FnO.reads), (h1.rd (PatO.reads d))⟩

theorem CodeR.shape (d : Nat) : ∀ w vs x, CodeR d w vs x → ShCode vs := by
  rintro w vs x ⟨v0, v1, rfl, h0, h1⟩
  obtain ⟨q0a0, q0l0, q0c0, rfl⟩ := h0.sl
  obtain ⟨q1a1, q1l1, q1c1, rfl⟩ := h1.sl
  exact ⟨_, _, _, _, _, _, rfl⟩

theorem CodeO.shape (d : Nat) : ∀ w vs x fp, CodeO d w vs x fp → ShCode vs := fun w vs x fp h => CodeR.shape d w vs x (CodeO.reads d w vs x fp h)

set_option maxHeartbeats 4000000 in
theorem szCode_any (d : Nat) : SzEl 4 (CodeR d) (WfCode d) (szCodeD d) := by
  rintro vs x left w ⟨v0, v1, rfl, h0, h1⟩ ⟨wFns, wPats⟩ hl0 hm
  obtain ⟨a0, l0, c0, rfl⟩ := h0.sl
  obtain ⟨a1, l1, c1, rfl⟩ := h1.sl
  obtain ⟨W, hW⟩ : ∃ W, W = w.alloc (Obj.cells #[.slice a0 l0 c0, .slice a1 l1 c1] 25) := ⟨_, rfl⟩
  have hA : Below w.heap.size w W := by rw [hW]; exact (Below.refl _ _).alloc (Nat.le_refl _) _
  have hWc : W.heap[w.heap.size]? = some (Obj.cells #[.slice a0 l0 c0, .slice a1 l1 c1] 25 (0, 0)) := by rw [hW]; exact heap_alloc_new w _
  obtain ⟨A0, hA0⟩ : ∃ A, szRow szFnD x.Fns = A := ⟨_, rfl⟩
  obtain ⟨A1, hA1⟩ : ∃ A, szRow (szPatD d) x.Pats = A := ⟨_, rfl⟩
  have e0 : szCodeD d x = A0 + (A1) := by rw [← hA0]; rw [← hA1]; rfl
  rw [e0]
  obtain ⟨TL, hTL⟩ : ∃ L, lft left (A0 + (A1)) = L := ⟨_, rfl⟩
  rw [hTL]
  have H0 : Hid (∀ V : World, Below w.heap.size w V → ∀ l : Int, 0 ≤ l → l ≤ 1048576 → _) := fun V hV l p1 p2 => szFnS_any (.slice a0 l0 c0) x.Fns l V (h0.later FnR.lasts hV) wFns p1 p2
  rw [hA0] at H0
  have H1 : Hid (∀ V : World, Below w.heap.size w V → ∀ l : Int, 0 ≤ l → l ≤ 1048576 → _) := fun V hV l p1 p2 => szPatS_any d (.slice a1 l1 c1) x.Pats l V (h1.later (PatR.lasts d) hV) wPats p1 p2
  rw [hA1] at H1
  have HW : Hid (W = _) := hW
  have HT0 : Hid (TL = lft left (A0 + (A1))) := hTL.symm
  have HB0 : Hid (Below w.heap.size w W ∧ W.heap[w.heap.size]? = some (Obj.cells #[.slice a0 l0 c0, .slice a1 l1 c1] 25 (0, 0))) := ⟨hA, hWc⟩
  clear e0 hTL hW hA hWc hA0 h0 wFns hA1 h1 wPats
  have hC := H0.out W HB0.out.1 left (by omega) (by omega)
  obtain ⟨y0, hy0⟩ : ∃ y, lft left A0 = y := ⟨_, rfl⟩
  have HL0 : Hid (_ ∧ _) := lft_two left A0 (A1) (by omega)
  rw [hy0] at hC HL0
  clear hy0
  rw [HW.out] at hC
  go_enter Tryd.func4, Tryd.ntmps4
  go_wp2_with fail
  refine hC.mono ?_
  clear hC
  rintro e w0 ⟨rfl, hb0⟩
  rw [← HW.out] at hb0
  have HB1 : Hid (Below w.heap.size w w0 ∧ w0.heap[w.heap.size]? = some (Obj.cells #[.slice a0 l0 c0, .slice a1 l1 c1] 25 (0, 0))) := ⟨HB0.out.1.trans (hb0.mono HB0.out.1.size), (hb0.block _ (lt_row HB0.out.2)).trans HB0.out.2⟩
  clear hb0
  by_cases hneg : y0 < 0
  · have HF : Hid ((-1 : Int) = TL) := by show _ = _; rw [HT0.out]; exact (HL0.out.1 (by omega)).symm
    go_wp2
    go_ret
    exact ⟨tret1 HF.out, HB1.out.1⟩
  · obtain ⟨E1, E2, E3⟩ := HL0.out.2 (by omega)
    have HT1 : Hid (TL = lft y0 (A1)) := by show _ = _; rw [HT0.out]; exact E1.symm
    have hm0 : y0 ≤ 1048576 := by omega
    clear E1
    have f1 : w0.cell? ⟨w.heap.size, 1, none⟩ = some (.slice a1 l1 c1) := by rw [cell_of_row w0 _ 1 _ _ _ HB1.out.2]; rfl
    have hC := H1.out w0 HB1.out.1 y0 (by omega) (by omega)
    obtain ⟨y1, hy1⟩ : ∃ y, lft y0 A1 = y := ⟨_, rfl⟩
    have HL1 : Hid (y1 < 0 → y1 = -1) := fun h => by rw [← hy1] at h ⊢; exact lft_neg _ _ h
    have HM1 : Hid (TL = y1) := HT1.out.trans hy1
    rw [hy1] at hC
    clear hy1
    go_wp2_with fail
    refine hC.mono ?_
    clear hC
    rintro e w1 ⟨rfl, hb1⟩
    have HB2 : Hid (Below w.heap.size w w1 ∧ w1.heap[w.heap.size]? = some (Obj.cells #[.slice a0 l0 c0, .slice a1 l1 c1] 25 (0, 0))) := ⟨HB1.out.1.trans (hb1.mono HB1.out.1.size), (hb1.block _ (lt_row HB1.out.2)).trans HB1.out.2⟩
    clear hb1
    by_cases hneg : y1 < 0
    · have HF : Hid ((-1 : Int) = TL) := by show _ = _; rw [HM1.out]; exact (HL1.out (by omega)).symm
      go_wp2
      go_ret
      exact ⟨tret1 HF.out, HB2.out.1⟩
    · have HF : Hid (y1 = TL) := HM1.out.symm
      go_wp2
      go_ret
      exact ⟨tret1 HF.out, HB2.out.1⟩

set_option maxHeartbeats 4000000 in
theorem toCode_any (d : Nat) : ToEl 6 (CodeR d) (CodeO d) (WfCode d) (szCodeD d) := by
  rintro vs x w ⟨v0, v1, rfl, h0, h1⟩ ⟨wFns, wPats⟩ hz
  have hz' : szRow szFnD x.Fns + (szRow (szPatD d) x.Pats) ≤ 1048576 := hz
  obtain ⟨a0, l0, c0, rfl⟩ := h0.sl
  obtain ⟨a1, l1, c1, rfl⟩ := h1.sl
  obtain ⟨W, hW⟩ : ∃ W, W = ((w.alloc (Obj.cells #[.slice a0 l0 c0, .slice a1 l1 c1] 25)).alloc (.cells #[.slice none 0 0, .slice none 0 0] 32)).alloc (.cells #[.slice none 0 0, .slice none 0 0] 32) := ⟨_, rfl⟩
  obtain ⟨nA, nB, nC⟩ := heap_three w (Obj.cells #[.slice a0 l0 c0, .slice a1 l1 c1] 25) (.cells #[.slice none 0 0, .slice none 0 0] 32) (.cells #[.slice none 0 0, .slice none 0 0] 32)
  rw [← hW] at nA nB nC
  have hWb : Below w.heap.size w W := by rw [hW]; exact (((Below.refl _ _).alloc (Nat.le_refl _) _).alloc (by simp) _).alloc (by simp; omega) _
  have hWs : W.heap.size = w.heap.size + 1 + 1 + 1 := by rw [hW]; simp
  have H0 : Hid (∀ V : World, Below w.heap.size w V → _) := fun V hV => toFnS_any (.slice a0 l0 c0) x.Fns V (h0.later FnR.lasts hV) wFns (by omega)
  have H1 : Hid (∀ V : World, Below w.heap.size w V → _) := fun V hV => toPatS_any d (.slice a1 l1 c1) x.Pats V (h1.later (PatR.lasts d) hV) wPats (by omega)
  have HW : Hid (W = _) := hW
  have HBW : Hid (Below w.heap.size w W) := hWb
  have HN : Hid (_ ∧ _ ∧ _) := ⟨nA, nB, nC⟩
  clear hW nA nB nC hWb hz hz' h0 wFns h1 wPats
  have hC := H0.out W HBW.out
  rw [HW.out] at hC
  go_enter Tryd.func6, Tryd.ntmps6
  go_wp2_with fail
  refine hC.mono ?_
  clear hC
  rintro e w0 ⟨ya0, yl0, yc0, fp0, rfl, hown0, hfr0, hb0⟩
  rw [← HW.out] at hfr0 hb0
  obtain ⟨nA, nB, nC⟩ := HN.out
  have zz0 := hb0.size
  have nA0 := (hb0.block _ (lt_row nA)).trans nA
  have nB0 := (hb0.block _ (lt_row nB)).trans nB
  have nC0 := (hb0.block _ (lt_row nC)).trans nC
  obtain ⟨V0, hV0⟩ : ∃ V, V = w0.setCell ⟨w.heap.size + 1 + 1, 0, none⟩ (.slice ya0 yl0 yc0) := ⟨_, rfl⟩
  have hV0' : V0 = setL w0 (w.heap.size + 1 + 1) 0 [.slice ya0 yl0 yc0] := hV0
  have hzV0 : V0.heap.size = w0.heap.size := by rw [hV0']; exact setL_size _ _ _ _
  have hkV : ∀ j, j ≠ w.heap.size + 1 + 1 → V0.heap[j]? = w0.heap[j]? := fun j hj => by rw [hV0']; exact setL_other _ _ _ _ _ hj
  have hbV : Below (w.heap.size + 1 + 1) w0 V0 := by rw [hV0']; exact setL_below _ _ _ _ _ (Nat.le_refl _)
  have nCV : V0.heap[w.heap.size + 1 + 1]? = some (.cells #[.slice ya0 yl0 yc0, .slice none 0 0] 32 (0, 0)) := by rw [hV0']; exact setL_row _ _ _ _ _ _ nC0
  have HN0 : Hid (_ ∧ _ ∧ _) := ⟨(hkV _ (by omega)).trans nA0, (hkV _ (by omega)).trans nB0, nCV⟩
  have HB0 : Hid (Below w.heap.size w V0) := (HBW.out.trans (hb0.mono HBW.out.size)).trans (hbV.mono (by omega))
  have HO0 : Hid (OwnRow 4 45 FnO V0 (.slice ya0 yl0 yc0) x.Fns fp0) := hown0.frame FnO.lasts fun g hg => hkV g (by have := (hfr0.2 g hg).1; omega)
  have HR0 : Hid (fp0.Nodup ∧ ∀ g ∈ fp0, W.heap.size ≤ g ∧ g < w0.heap.size) := ⟨hfr0.1, hfr0.2⟩
  have hC := H1.out V0 HB0.out
  rw [hV0] at hC
  have HV0 : Hid (V0 = _) := hV0
  have f1 : w0.cell? ⟨w.heap.size, 1, none⟩ = some (.slice a1 l1 c1) := by rw [cell_of_row w0 _ 1 _ _ _ nA0]; rfl
  have g0 : w0.cell? ⟨w.heap.size + 1 + 1, 0, none⟩ = some (.slice none 0 0) := by rw [cell_of_row w0 _ 0 _ _ _ nC0]; rfl
  have z0 : w0.frozen? ⟨w.heap.size + 1 + 1, 0, none⟩ = false := frozen_of_row w0 _ _ _ _ nC0
  clear hV0 hV0' nA0 nB0 nC0 nA nB nC nCV hkV hbV hown0 hfr0 hb0 HN
  go_wp2_with fail
  refine hC.mono ?_
  clear hC f1 g0 z0
  rintro e w1 ⟨ya1, yl1, yc1, fp1, rfl, hown1, hfr1, hb1⟩
  rw [← HV0.out] at hfr1 hb1
  obtain ⟨nA, nB, nC⟩ := HN0.out
  have zz1 := hb1.size
  have nA1 := (hb1.block _ (lt_row nA)).trans nA
  have nB1 := (hb1.block _ (lt_row nB)).trans nB
  have nC1 := (hb1.block _ (lt_row nC)).trans nC
  have HR1 : Hid (fp1.Nodup ∧ ∀ g ∈ fp1, V0.heap.size ≤ g ∧ g < w1.heap.size) := ⟨hfr1.1, hfr1.2⟩
  have HFIN : Hid (∀ Z, Kept (w.heap.size + 1) (w.heap.size + 1 + 1 + 1) w1 Z → CodeO d Z [.slice ya0 yl0 yc0, .slice ya1 yl1 yc1] x (fp0 ++ (fp1)) ∧ Fresh w.heap.size Z (fp0 ++ (fp1)) ∧ Below w.heap.size w Z) := fun Z hZ => by
    have hzZ := hZ.size
    have hbw : Below w.heap.size w w1 := HB0.out.trans (hb1.mono HB0.out.size)
    have hwz := hbw.size
    have r0 := HR0.out
    have r1 := HR1.out
    refine ⟨⟨_, _, fp0, fp1, rfl, rfl, HO0.out.frame FnO.lasts fun g hg => (hZ.block g (by have := (r0.2 g hg).2; omega) (.inr (by have := (r0.2 g hg).1; omega))).trans (hb1.block g (by have := (r0.2 g hg).2; omega)), hown1.frame (PatO.lasts d) fun g hg => hZ.block g (r1.2 g hg).2 (.inr (by have := (r1.2 g hg).1; omega))⟩, ⟨?_, fun g hg => ?_⟩, ?_⟩
    · exact List.nodup_append.2 ⟨r0.1, r1.1, fun a ha b hb e => by subst e; have h1 := r0.2 a ha; have h2 := r1.2 a hb; omega⟩
    · simp only [List.mem_append] at hg
      rcases hg with hg | hg <;> first | (have h2 := r0.2 g hg; omega) | (have h2 := r1.2 g hg; omega)
    · exact hbw.trans (hZ.below (by omega) hbw.size)
  have g0 : w1.cell? ⟨w.heap.size + 1 + 1, 0, none⟩ = some (.slice ya0 yl0 yc0) := by rw [cell_of_row w1 _ 0 _ _ _ nC1]; rfl
  have z0 : w1.frozen? ⟨w.heap.size + 1 + 1, 0, none⟩ = false := frozen_of_row w1 _ _ _ _ nC1
  have b0 : w1.cell? ⟨w.heap.size + 1, 0, none⟩ = some (.slice none 0 0) := by rw [cell_of_row w1 _ 0 _ _ _ nB1]; rfl
  have u0 : w1.frozen? ⟨w.heap.size + 1, 0, none⟩ = false := frozen_of_row w1 _ _ _ _ nB1
  have g1 : w1.cell? ⟨w.heap.size + 1 + 1, 1, none⟩ = some (.slice none 0 0) := by rw [cell_of_row w1 _ 1 _ _ _ nC1]; rfl
  have z1 : w1.frozen? ⟨w.heap.size + 1 + 1, 1, none⟩ = false := frozen_of_row w1 _ _ _ _ nC1
  have b1 : w1.cell? ⟨w.heap.size + 1, 1, none⟩ = some (.slice none 0 0) := by rw [cell_of_row w1 _ 1 _ _ _ nB1]; rfl
  have u1 : w1.frozen? ⟨w.heap.size + 1, 1, none⟩ = false := frozen_of_row w1 _ _ _ _ nB1
  clear nA1 nB1 nC1 nA nB nC hown1 hfr1 hb1 HN0
  go_wp2_with fail
  refine bodyPost_ret (v := .agg #[.slice ya0 yl0 yc0, .slice ya1 yl1 yc1]) (by first | (simp [results, Tryd.results6, go_sem, b0, b1]; done) | (simp [results, Tryd.results6, go_sem, b0, b1]; rfl)) rfl ⟨[.slice ya0 yl0 yc0, .slice ya1 yl1 yc1], fp0 ++ (fp1), rfl, HFIN.out _ ?_⟩
  repeat (first | with_reducible exact Kept.refl _ _ _ | with_reducible refine Kept.drew ?_ | (with_reducible refine Kept.set ?_ ?_; omega))

set_option maxHeartbeats 4000000 in
theorem eqCode_any (d : Nat) : EqEl 9 (CodeR d) (WfCode d) := by
  rintro vs1 vs2 x w ⟨v0, v1, rfl, h0, h1⟩ ⟨v0z, v1z, rfl, k0, k1⟩ ⟨wFns, wPats⟩
  obtain ⟨a0, l0, c0, rfl⟩ := h0.sl
  obtain ⟨a1, l1, c1, rfl⟩ := h1.sl
  obtain ⟨za0, zl0, zc0, rfl⟩ := k0.sl
  obtain ⟨za1, zl1, zc1, rfl⟩ := k1.sl
  obtain ⟨W, hW⟩ : ∃ W, W = (w.alloc (Obj.cells #[.slice a0 l0 c0, .slice a1 l1 c1] 32)).alloc (Obj.cells #[.slice za0 zl0 zc0, .slice za1 zl1 zc1] 32) := ⟨_, rfl⟩
  have hA : Below w.heap.size w W := by rw [hW]; exact ((Below.refl _ _).alloc (Nat.le_refl _) _).alloc (by simp) _
  have n1 : W.heap[w.heap.size]? = some (Obj.cells #[.slice a0 l0 c0, .slice a1 l1 c1] 32 (0, 0)) := by rw [hW, Below.heap_alloc _ _ _ (by simp)]; exact heap_alloc_new w _
  have n2 : W.heap[w.heap.size + 1]? = some (Obj.cells #[.slice za0 zl0 zc0, .slice za1 zl1 zc1] 32 (0, 0)) := by rw [hW]; have := heap_alloc_new (w.alloc (Obj.cells #[.slice a0 l0 c0, .slice a1 l1 c1] 32)) (Obj.cells #[.slice za0 zl0 zc0, .slice za1 zl1 zc1] 32); simpa using this
  have H0 : Hid (∀ V : World, Below w.heap.size w V → _) := fun V hV => eqFnS_any (.slice a0 l0 c0) (.slice za0 zl0 zc0) x.Fns V (h0.later FnR.lasts hV) (k0.later FnR.lasts hV) wFns
  have H1 : Hid (∀ V : World, Below w.heap.size w V → _) := fun V hV => eqPatS_any d (.slice a1 l1 c1) (.slice za1 zl1 zc1) x.Pats V (h1.later (PatR.lasts d) hV) (k1.later (PatR.lasts d) hV) wPats
  have HW : Hid (W = _) := hW
  have HN : Hid (Below w.heap.size w W ∧ _ ∧ _) := ⟨hA, n1, n2⟩
  clear n1 n2 h0 k0 wFns h1 k1 wPats
  clear hA
  have hC := H0.out W HN.out.1
  rw [hW] at hC
  clear hW
  go_enter Tryd.func9, Tryd.ntmps9
  go_wp2_with fail
  refine hC.mono ?_
  clear hC
  rintro e w0 ⟨rfl, hb0⟩
  rw [← HW.out] at hb0
  have HN0 : Hid (Below w.heap.size w w0 ∧ _ ∧ _) := ⟨HN.out.1.trans (hb0.mono HN.out.1.size), (hb0.block _ (lt_row HN.out.2.1)).trans HN.out.2.1, (hb0.block _ (lt_row HN.out.2.2)).trans HN.out.2.2⟩
  clear hb0
  have f1 : w0.cell? ⟨w.heap.size, 1, none⟩ = some (.slice a1 l1 c1) := by rw [cell_of_row w0 _ 1 _ _ _ HN0.out.2.1]; rfl
  have g1 : w0.cell? ⟨w.heap.size + 1, 1, none⟩ = some (.slice za1 zl1 zc1) := by rw [cell_of_row w0 _ 1 _ _ _ HN0.out.2.2]; rfl
  have hC := H1.out w0 HN0.out.1
  go_wp2_with fail
  refine hC.mono ?_
  clear hC f1 g1
  rintro e w1 ⟨rfl, hb1⟩
  have HN1 : Hid (Below w.heap.size w w1 ∧ _ ∧ _) := ⟨HN0.out.1.trans (hb1.mono HN0.out.1.size), (hb1.block _ (lt_row HN0.out.2.1)).trans HN0.out.2.1, (hb1.block _ (lt_row HN0.out.2.2)).trans HN0.out.2.2⟩
  clear hb1
  go_wp2
  go_ret
  exact ⟨rfl, HN1.out.1⟩

theorem Tryd.cellsCode : Tryd.prog.cellsOf 25 = 2 := by kernel_rfl
section
variable {H : Type} {enc : TypeId × Value → H} {W : World} {base : Nat} {spare : Nat → Bool} {held : Bool}

set_option maxRecDepth 100000 in
theorem read_CodeC (m d : Nat) (hd : m ≤ d) (cs : List Value) (x : DataW H × List MemPlace) (h : DataW.trod enc Tryd.prog W base spare held m 25 cs = some x) (hl : cs.length = 2) : ∃ f : DCode d, CodeR d W cs f ∧ WfCode d f := by
  obtain ⟨c0, c1, rfl⟩ : ∃ c0 c1, cs = [c0, c1] := by
    match cs, hl with
    | [c0, c1], _ => exact ⟨c0, c1, rfl⟩
  obtain ⟨xs, m, rfl, _, _, hxl, hf⟩ := DataW.trod_struct Tryd.underlying25 h
  have hxl' : xs.length = 2 := hxl
  have h0 : DataW.trod enc Tryd.prog W base spare held m 22 [c0] = xs[0]? := by have := hf 0 _ rfl; simpa [Tryd.cellsFns, Tryd.cellsPats] using this
  have h1 : DataW.trod enc Tryd.prog W base spare held m 23 [c1] = xs[1]? := by have := hf 1 _ rfl; simpa [Tryd.cellsFns, Tryd.cellsPats] using this
  rw [List.getElem?_eq_getElem (by omega)] at h0 h1
  obtain ⟨x0, r0, q0⟩ := read_row (R := FnR) (P := WfFn) Tryd.underlying22 Tryd.cellsFn (by omega) (fun n hn cs x hx hl => read_FnC n  cs x hx hl) h0
  obtain ⟨x1, r1, q1⟩ := read_row (R := (PatR d)) (P := (WfPat d)) Tryd.underlying23 Tryd.cellsPat (by omega) (fun n hn cs x hx hl => read_PatC n d (by omega) cs x hx hl) h1
  exact ⟨⟨x0, x1⟩, ⟨_, _, rfl, r0, r1⟩, q0, q1⟩

set_option maxRecDepth 100000 in
theorem read_Code {r : Reach} {b0 : Nat} {v : Value} {x : DataW H} {p : List MemPlace} (hv : Value.okWide Tryd.prog W r b0 25 v) (h : DataW.Trod enc Tryd.prog W base spare held 25 v x p) :
    ∃ M, ∀ d, M ≤ d → ∃ (vs : List Value) (e : DCode d), v = .agg vs.toArray ∧ CodeR d W vs e ∧ WfCode d e := by
  obtain ⟨cs, rfl, hsz⟩ := okWide_struct Tryd.underlying25 hv
  obtain ⟨fuel, hf⟩ := h
  have hf' : DataW.trod enc Tryd.prog W base spare held fuel 25 cs.toList = some (x, p) := hf
  refine ⟨fuel, fun d hd => ?_⟩
  obtain ⟨e, h1, h2⟩ := read_CodeC fuel d hd cs.toList _ hf' (by have := hsz.trans Tryd.cellsCode; simpa using this)
  exact ⟨cs.toList, e, by simp, h1, h2⟩
end

end Go.Proofs.YtfachfimdenapaaDoor
