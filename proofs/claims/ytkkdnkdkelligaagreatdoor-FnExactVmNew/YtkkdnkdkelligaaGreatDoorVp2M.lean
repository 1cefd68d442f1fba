/- A frame: whether it fits, how high it is, whether it is behind a call: the program's. -/
import Derived.Test.YtkkdnkdkelligaaGreatDoorVo1M
import Derived.Test.YtkkdnkdkelligaaGreatDoorCk9M
import Derived.Test.YtkkdnkdkelligaaGreatDoorCk1M
namespace Go.Proofs.YtkkdnkdkelligaaGreatDoor
open Go.RowKit
set_option linter.unusedVariables false


set_option maxRecDepth 100000 in
set_option maxHeartbeats 4000000 in
theorem frameFits_any {d e : Nat} (a0 : Option Addr) (l0 c0 : Nat) (a1 : Option Addr) (l1 c1 : Nat) (c : DCode d) (f : DFrame e) (F P : Int) (sa : Option Addr) (sl sc : Nat) (w : World)
    (hFe : f.F = F) (hPe : f.Pc = P) (hc : CodeR d w [.slice a0 l0 c0, .slice a1 l1 c1] c) (hz : szCodeD d c ≤ 1048576) (hs : RdL (e + 1) w (.slice sa sl sc) f.Slots) (hw : WfL (e + 1) f.Slots) (hsl : f.Slots.length = sl) (hsz : sl ≤ 1048576) :
    Calls Tryz.prog 33 #[.agg #[.slice a0 l0 c0, .slice a1 l1 c1], .agg #[.int .i64 F, .int .i64 P, .slice sa sl sc]] w fun e w' => BRes (FitF c f) w e w' := by
  obtain ⟨PP, hPP⟩ : ∃ P : Prop, FitF c f = P := ⟨_, rfl⟩
  have HPP : Hid (FitF c f = PP) := hPP
  rw [hPP]
  clear hPP
  have hcc := hc
  obtain ⟨w0, w1, e0, hF, hP⟩ := hcc
  simp only [List.cons.injEq, and_true] at e0
  obtain ⟨rfl, rfl⟩ := e0
  obtain ⟨aa, cc, ee⟩ := hF.slice
  simp only [Value.slice.injEq] at ee
  obtain ⟨-, el, -⟩ := ee
  have HLN : Hid (c.Fns.length = l0 ∧ l0 ≤ 1048576) := ⟨el.symm, by have := szRow_len szFnD c.Fns; unfold szCodeD at hz; omega⟩
  have hl0 : l0 ≤ 1048576 := HLN.out.2
  obtain ⟨W, hW⟩ : ∃ W, W = (w.alloc (.cells #[.slice a0 l0 c0, .slice a1 l1 c1] 36)).alloc (.cells #[.int .i64 F, .int .i64 P, .slice sa sl sc] 61) := ⟨_, rfl⟩
  have hA : Below w.heap.size w W := by rw [hW]; exact ((Below.refl _ _).alloc (Nat.le_refl _) _).alloc (by simp) _
  have nB : W.heap[w.heap.size + 1]? = some (.cells #[.int .i64 F, .int .i64 P, .slice sa sl sc] 61 (0, 0)) := by
    rw [hW, show w.heap.size + 1 = (w.alloc (.cells #[.slice a0 l0 c0, .slice a1 l1 c1] 36)).heap.size from by simp]; exact heap_alloc_new _ _
  have nA : W.heap[w.heap.size]? = some (.cells #[.slice a0 l0 c0, .slice a1 l1 c1] 36 (0, 0)) := by
    rw [hW, (((Below.refl _ _).alloc (Nat.le_refl _) _).block w.heap.size (by simp))]; exact heap_alloc_new _ _
  have HB : Hid (Below w.heap.size w W) := hA
  have HFE : Hid (f.F = F ∧ f.Pc = P ∧ f.Slots.length = sl) := ⟨hFe, hPe, hsl⟩
  have HSL : Hid (∀ V : World, Below w.heap.size w V → Calls Tryz.prog 65 #[.slice sa sl sc, .func (.func 66) #[] #[]] V fun e' w' => BRes (∃ (i : Nat) (t : Tm (e + 1)), f.Slots[i]? = some t ∧ ¬ SlotP e t) V e' w') := fun V hV =>
    containsTm_any e 66 _ enters_wrong (isWrongSlot_any e) sa sl sc f.Slots V (hs.later hV) hw hsl hsz
  have HRW : Hid (RowOf 4 FnR w (.slice a0 l0 c0) c.Fns) := hF
  have HW : Hid (W = _) := hW
  clear hc hz hs hw hsl hFe hPe hF hP el
  by_cases k0 : F < 0
  · have HF : Hid (¬ PP) := by rw [← HPP.out]; exact fitF_no (.inl (by rw [HFE.out.1]; exact k0))
    rw [HW.out] at HB
    clear nA nB hA hW
    go_enter Tryz.func33, Tryz.ntmps33
    go_wp2_with fail
    go_ret
    exact bres_no HF.out HB.out
  by_cases k1 : (l0 : Int) ≤ F
  · have HF : Hid (¬ PP) := by rw [← HPP.out]; exact fitF_no (.inr (by rw [HFE.out.1, HLN.out.1]; exact k1))
    rw [HW.out] at HB
    clear nA nB hA hW
    go_enter Tryz.func33, Tryz.ntmps33
    go_wp2_with fail
    go_ret
    exact bres_no HF.out HB.out
  obtain ⟨k, rfl⟩ : ∃ k : Nat, F = k := ⟨F.toNat, by omega⟩
  obtain ⟨g, hg⟩ : ∃ g, c.Fns[k]? = some g := ⟨_, List.getElem?_eq_getElem (by have := HLN.out; omega)⟩
  obtain ⟨b, o, a3, c3, rfl, f0, f1, f2, f3, hrow⟩ := Fn_at HRW.out k g hg
  have HPM : Hid (PP ↔ (0 ≤ P ∧ P < g.Ins.length) ∧ (sl : Int) = g.Slots ∧ ∀ (i : Nat) (t : Tm (e + 1)), f.Slots[i]? = some t → SlotP e t) := by
    rw [← HPP.out]
    have := fitF_iff (c := c) (f := f) HFE.out.1 hg
    rw [HFE.out.2.1, HFE.out.2.2] at this
    exact this
  have hbl : b < w.heap.size := by have := World.block_lt_of_cell? w _ f0; simpa using this
  have kl : k < l0 := by omega
  obtain ⟨gi, hgi⟩ : ∃ n, g.Ins.length = n := ⟨_, rfl⟩
  obtain ⟨gs, hgs⟩ : ∃ n, g.Slots = n := ⟨_, rfl⟩
  rw [hgi, hgs] at HPM
  rw [hgi] at f3
  rw [hgs] at f2
  clear hrow hg HRW hgi hgs
  obtain ⟨X, hX⟩ : ∃ X, X = ((w.alloc (.cells #[.slice (some ⟨b, o, none⟩) l0 c0, .slice a1 l1 c1] 36)).alloc (.cells #[.int .i64 k, .int .i64 P, .slice sa sl sc] 61)).alloc (.cells #[.string g.Name, .int .i64 g.Args, .int .i64 gs, .slice a3 gi c3] 83) := ⟨_, rfl⟩
  have HX : Hid (X = _) := hX
  have HBX : Hid (Below w.heap.size w X) := by rw [hX]; rw [HW.out] at HB; exact HB.out.trans ((Below.refl _ _).alloc (by simp; omega) _)
  clear nA nB hA hX
  by_cases p0 : P < 0
  · have HF : Hid (¬ PP) := fun h => by have := (HPM.out.1 h).1; omega
    have p0' : ¬ 0 ≤ P := by omega
    rw [HX.out] at HBX
    go_enter Tryz.func33, Tryz.ntmps33
    go_wp2_with fail
    go_ret
    exact bres_no HF.out HBX.out
  have p0' : 0 ≤ P := by omega
  by_cases p1 : P < (gi : Int)
  case neg =>
    have HF : Hid (¬ PP) := fun h => by have := (HPM.out.1 h).1; omega
    rw [HX.out] at HBX
    go_enter Tryz.func33, Tryz.ntmps33
    go_wp2_with fail
    go_ret
    exact bres_no HF.out HBX.out
  by_cases q0 : (sl : Int) = gs
  case neg =>
    have HF : Hid (¬ PP) := fun h => q0 (HPM.out.1 h).2.1
    have q0' : ((sl : Int) == gs) = false := by simp [q0]
    clear q0
    rw [HX.out] at HBX
    go_enter Tryz.func33, Tryz.ntmps33
    go_wp2_with fail
    go_ret
    exact bres_no HF.out HBX.out
  have q0' : ((sl : Int) == gs) = true := by simp [q0]
  have HQ : Hid ((sl : Int) = gs ∧ 0 ≤ P ∧ P < gi) := ⟨q0, p0', p1⟩
  clear q0
  have hC := HSL.out X HBX.out
  rw [HX.out] at hC
  go_enter Tryz.func33, Tryz.ntmps33
  go_wp2_with fail
  refine hC.mono ?_
  clear hC
  rintro e' V ⟨b', rfl, hb, hB⟩
  rw [← HX.out] at hB
  have HBV : Hid (Below w.heap.size w V) := HBX.out.trans (hB.mono HBX.out.size)
  have HF : Hid ((!b') = true ↔ PP) := by
    have h1 := HPM.out
    cases b'
    · exact ⟨(fun _ => h1.2 ⟨⟨HQ.out.2.1, HQ.out.2.2⟩, HQ.out.1, fun i t hi => Classical.byContradiction fun h3 => by have := hb.2 ⟨i, t, hi, h3⟩; cases this⟩), fun _ => rfl⟩
    · exact ⟨(fun h => by cases h), fun h => by obtain ⟨i, t, hi, ht⟩ := hb.1 rfl; exact absurd ((h1.1 h).2.2 i t hi) ht⟩
  clear hb hB
  go_wp2_with fail
  go_ret
  exact ⟨_, rfl, HF.out, HBV.out⟩

set_option maxRecDepth 100000 in
set_option maxHeartbeats 4000000 in
theorem heightAt_any {d e : Nat} (a0 : Option Addr) (l0 c0 : Nat) (a1 : Option Addr) (l1 c1 : Nat) (c : DCode d) (f : DFrame e) (F P : Int) (sa : Option Addr) (sl sc : Nat) (w : World)
    (hFe : f.F = F) (hPe : f.Pc = P) (hc : CodeR d w [.slice a0 l0 c0, .slice a1 l1 c1] c) (hok : pCodeOk d c) (hz : szCodeD d c ≤ 1048576) (hfit : FitF c f) :
    Calls Tryz.prog 34 #[.agg #[.slice a0 l0 c0, .slice a1 l1 c1], .agg #[.int .i64 F, .int .i64 P, .slice sa sl sc]] w fun e w' => e = .returned (.int .i64 (htF c f)) ∧ Below w.heap.size w w' := by
  have hcc := hc
  obtain ⟨w0, w1, e0, hF, hP⟩ := hcc
  simp only [List.cons.injEq, and_true] at e0
  obtain ⟨rfl, rfl⟩ := e0
  obtain ⟨aa, cc, ee⟩ := hF.slice
  simp only [Value.slice.injEq] at ee
  obtain ⟨-, el, -⟩ := ee
  have HLN : Hid (c.Fns.length = l0 ∧ l0 ≤ 1048576) := ⟨el.symm, by have := szRow_len szFnD c.Fns; unfold szCodeD at hz; omega⟩
  have hl0 : l0 ≤ 1048576 := HLN.out.2
  obtain ⟨W, hW⟩ : ∃ W, W = (w.alloc (.cells #[.slice a0 l0 c0, .slice a1 l1 c1] 36)).alloc (.cells #[.int .i64 F, .int .i64 P, .slice sa sl sc] 61) := ⟨_, rfl⟩
  have hA : Below w.heap.size w W := by rw [hW]; exact ((Below.refl _ _).alloc (Nat.le_refl _) _).alloc (by simp) _
  have nB : W.heap[w.heap.size + 1]? = some (.cells #[.int .i64 F, .int .i64 P, .slice sa sl sc] 61 (0, 0)) := by
    rw [hW, show w.heap.size + 1 = (w.alloc (.cells #[.slice a0 l0 c0, .slice a1 l1 c1] 36)).heap.size from by simp]; exact heap_alloc_new _ _
  have nA : W.heap[w.heap.size]? = some (.cells #[.slice a0 l0 c0, .slice a1 l1 c1] 36 (0, 0)) := by
    rw [hW, (((Below.refl _ _).alloc (Nat.le_refl _) _).block w.heap.size (by simp))]; exact heap_alloc_new _ _
  have HB : Hid (Below w.heap.size w W) := hA
  obtain ⟨k, p, g, e1, hg, e3, e4, _⟩ := hfit
  obtain rfl : F = k := hFe.symm.trans e1
  obtain rfl : P = p := hPe.symm.trans e3
  obtain ⟨b, o, a3, c3, rfl, f0, f1, f2, f3, hrow⟩ := Fn_at hF k g hg
  have hbl : b < w.heap.size := by have := World.block_lt_of_cell? w _ f0; simpa using this
  have kl : k < l0 := by have := (List.getElem?_eq_some_iff.1 hg).1; omega
  have kl' : (k : Int) < (l0 : Int) := by omega
  obtain ⟨q1, q2, q3, q4, q5, q6, q, q7⟩ := hok.2.2 k g hg
  obtain ⟨t1, t2, _, _⟩ := hts_facts hok hg
  obtain ⟨t3, t4⟩ := htF_at hok e1 hg e3 e4
  have hC := heightsOf_any g.Ins a3 g.Ins.length c3 W (hrow.later InsR.lasts hA) rfl q5.1 q5.2 (fun x hx => (q6 x hx).op)
  rw [t1, hW] at hC
  obtain ⟨gi, hgi⟩ : ∃ n, g.Ins.length = n := ⟨_, rfl⟩
  rw [hgi] at hC f3 e4 t2
  obtain ⟨H, hH⟩ : ∃ n, htF c f = n := ⟨_, rfl⟩
  rw [hH] at t3 ⊢
  have HT : Hid ((htsD g)[p]? = some H) := t3
  have HTL : Hid ((htsD g).length = gi) := t2
  have HW : Hid (W = _) := hW
  have hpl : (p : Int) < (gi : Int) := by omega
  have hgb : gi ≤ 1500 := by rw [← hgi]; exact q5.2
  have HNB : Hid (W.heap[w.heap.size + 1]? = _) := nB
  clear hc hz hF hP el hrow hg hgi hH t3 t2 t1 q1 q2 q3 q4 q5 q6 q7 hok hA nA nB hW hFe hPe e1 e3
  go_enter Tryz.func34, Tryz.ntmps34
  go_wp2_with fail
  refine hC.mono ?_
  clear hC
  rintro e' V ⟨v, b', rfl, g1, g2, hB⟩
  rw [← HW.out] at hB
  have HBV : Hid (Below w.heap.size w V) := HB.out.trans (hB.mono HB.out.size)
  cases b' with
  | false => have := g2 rfl; cases this
  | true =>
    obtain ⟨q, gg, cp, hq, rfl, hgg, hrw⟩ := g1 rfl
    cases hq
    have y0 := hrw.cell HT.out
    rw [HTL.out]
    have nV := (hB.block _ (lt_row HNB.out)).trans HNB.out
    have x1 : V.cell? ⟨w.heap.size + 1, 1, none⟩ = some (.int .i64 (p : Int)) := by rw [cell_of_row V _ 1 _ _ _ nV]; rfl
    clear g1 g2 hrw hB nV
    go_wp2_with fail
    go_ret
    exact ⟨rfl, HBV.out⟩

set_option maxRecDepth 100000 in
set_option maxHeartbeats 4000000 in
theorem isBehindCall_any {d e : Nat} (a0 : Option Addr) (l0 c0 : Nat) (a1 : Option Addr) (l1 c1 : Nat) (c : DCode d) (f : DFrame e) (F P : Int) (sa : Option Addr) (sl sc : Nat) (nx : Int) (w : World)
    (hFe : f.F = F) (hPe : f.Pc = P) (hc : CodeR d w [.slice a0 l0 c0, .slice a1 l1 c1] c) (hz : szCodeD d c ≤ 1048576) (hfit : FitF c f) :
    Calls Tryz.prog 35 #[.agg #[.slice a0 l0 c0, .slice a1 l1 c1], .agg #[.int .i64 F, .int .i64 P, .slice sa sl sc], .int .i64 nx] w fun e w' => BRes (CallF c f nx) w e w' := by
  obtain ⟨PP, hPP⟩ : ∃ P : Prop, CallF c f nx = P := ⟨_, rfl⟩
  have HPP : Hid (CallF c f nx = PP) := hPP
  rw [hPP]
  clear hPP
  have hcc := hc
  obtain ⟨w0, w1, e0, hF, hP⟩ := hcc
  simp only [List.cons.injEq, and_true] at e0
  obtain ⟨rfl, rfl⟩ := e0
  obtain ⟨aa, cc, ee⟩ := hF.slice
  simp only [Value.slice.injEq] at ee
  obtain ⟨-, el, -⟩ := ee
  have HLN : Hid (c.Fns.length = l0 ∧ l0 ≤ 1048576) := ⟨el.symm, by have := szRow_len szFnD c.Fns; unfold szCodeD at hz; omega⟩
  have hl0 : l0 ≤ 1048576 := HLN.out.2
  obtain ⟨W, hW⟩ : ∃ W, W = (w.alloc (.cells #[.slice a0 l0 c0, .slice a1 l1 c1] 36)).alloc (.cells #[.int .i64 F, .int .i64 P, .slice sa sl sc] 61) := ⟨_, rfl⟩
  have hA : Below w.heap.size w W := by rw [hW]; exact ((Below.refl _ _).alloc (Nat.le_refl _) _).alloc (by simp) _
  have nB : W.heap[w.heap.size + 1]? = some (.cells #[.int .i64 F, .int .i64 P, .slice sa sl sc] 61 (0, 0)) := by
    rw [hW, show w.heap.size + 1 = (w.alloc (.cells #[.slice a0 l0 c0, .slice a1 l1 c1] 36)).heap.size from by simp]; exact heap_alloc_new _ _
  have nA : W.heap[w.heap.size]? = some (.cells #[.slice a0 l0 c0, .slice a1 l1 c1] 36 (0, 0)) := by
    rw [hW, (((Below.refl _ _).alloc (Nat.le_refl _) _).block w.heap.size (by simp))]; exact heap_alloc_new _ _
  have HB : Hid (Below w.heap.size w W) := hA
  obtain ⟨k, p0, g, e1, hg, e3, e4, _⟩ := hfit
  obtain rfl : F = k := hFe.symm.trans e1
  obtain rfl : P = p0 := hPe.symm.trans e3
  have HW : Hid (W = _) := hW
  cases p0 with
  | zero =>
    have HF : Hid (¬ PP) := by rw [← HPP.out]; exact callF_no e3
    rw [HW.out] at HB
    clear hc hz hF hP el hg hA nA nB hW hFe hPe e1 e3 e4
    have hp0 : (((0 : Nat) : Int) == 0) = true := by decide
    go_enter Tryz.func35, Tryz.ntmps35
    go_wp2_with fail
    go_ret
    exact bres_no HF.out HB.out
  | succ p =>
    obtain ⟨x, hx⟩ : ∃ x, g.Ins[p]? = some x := ⟨_, List.getElem?_eq_getElem (by omega)⟩
    have HPM : Hid (PP ↔ x.Op = 8 ∧ fnIx c.Fns x.S = nx) := by rw [← HPP.out]; exact callF_iff e1 hg (by rw [e3]; rfl) hx
    obtain ⟨b, o, a3, c3, rfl, f0, f1, f2, f3, hrow⟩ := Fn_at hF k g hg
    obtain ⟨b2, o2, rfl, g0, g1, g2, g3⟩ := Ins_at hrow p x hx
    have hbl : b < w.heap.size := by have := World.block_lt_of_cell? w _ f0; simpa using this
    have hbl2 : b2 < w.heap.size := by have := World.block_lt_of_cell? w _ g0; simpa using this
    have kl : k < l0 := by have := (List.getElem?_eq_some_iff.1 hg).1; omega
    have kl' : (k : Int) < (l0 : Int) := by omega
    have pl : p < g.Ins.length := by omega
    have pl' : (p : Int) < (g.Ins.length : Int) := by omega
    have hgl : g.Ins.length ≤ 1048576 := by
      have h5 := szRow_mem (f := szFnD) hg
      have h6 := szRow_len szInsD g.Ins
      have h7 : szFnD g = g.Name.size + szRow szInsD g.Ins := rfl
      unfold szCodeD at hz
      omega
    have HFA : Hid (∀ V : World, Below w.heap.size w V → Calls Tryz.prog 63 #[.agg #[.slice (some ⟨b, o, none⟩) l0 c0, .slice a1 l1 c1], .string x.S] V fun e w' => e = .returned (.int .i64 (fnIx c.Fns x.S)) ∧ Below V.heap.size V w') := fun V hV =>
      fnAt_any (.slice (some ⟨b, o, none⟩) l0 c0) (.slice a1 l1 c1) c.Fns x.S V (hF.later FnR.lasts hV) (by have := HLN.out; omega)
    have hp1 : ((((p + 1 : Nat) : Int)) == 0) = false := by simp; omega
    have hp2 : (((p + 1 : Nat) : Int) - 1) = (p : Int) := by omega
    obtain ⟨pp, hpp⟩ : ∃ z : Int, ((p + 1 : Nat) : Int) = z := ⟨_, rfl⟩
    have wrp : IntKind.i64.wrap (p : Int) = (p : Int) := wrapI_in _ (by omega)
    rw [hpp] at hp1 hp2 hW nB ⊢
    obtain ⟨gi, hgi⟩ : ∃ n, g.Ins.length = n := ⟨_, rfl⟩
    rw [hgi] at f3 pl pl' hgl
    have f3' := cell_later hA f3
    have g0' := cell_later hA g0
    have g1' := cell_later hA g1
    have g2' := cell_later hA g2
    have g3' := cell_later hA g3
    have hblW : b < W.heap.size := Nat.lt_of_lt_of_le hbl hA.size
    have hblW2 : b2 < W.heap.size := Nat.lt_of_lt_of_le hbl2 hA.size
    have hwW1 : w.heap.size + 1 < W.heap.size := lt_row nB
    have hwW0 : w.heap.size < W.heap.size := lt_row nA
    have y0 : W.cell? ⟨w.heap.size, 0, none⟩ = some (.slice (some ⟨b, o, none⟩) l0 c0) := by rw [cell_of_row W _ 0 _ _ _ nA]; rfl
    have y1 : W.cell? ⟨w.heap.size, 1, none⟩ = some (.slice a1 l1 c1) := by rw [cell_of_row W _ 1 _ _ _ nA]; rfl
    have z0 : W.cell? ⟨w.heap.size + 1, 0, none⟩ = some (.int .i64 (k : Int)) := by rw [cell_of_row W _ 0 _ _ _ nB]; rfl
    have z1 : W.cell? ⟨w.heap.size + 1, 1, none⟩ = some (.int .i64 pp) := by rw [cell_of_row W _ 1 _ _ _ nB]; rfl
    clear hc hz hF hP el hg hA nA nB hFe hPe e1 e3 e4 hrow hx hpp hgi f0 f1 f2 f3 g0 g1 g2 g3
    go_enter Tryz.func35, Tryz.ntmps35
    go_wp2_with fail
    rw [← hW]
    clear HW hW hbl hbl2
    obtain ⟨X, hX⟩ : ∃ X, X = (W.alloc (.cells #[.int .i64 x.Op, .int .i64 x.N, .string x.S, .int .i64 x.To] 113)).drew := ⟨_, rfl⟩
    have bX : Below W.heap.size W X := by rw [hX]; exact ((Below.refl _ _).alloc (Nat.le_refl _) _).drew
    have nX : X.heap[W.heap.size]? = some (.cells #[.int .i64 x.Op, .int .i64 x.N, .string x.S, .int .i64 x.To] 113 (0, 0)) := by rw [hX]; exact heap_alloc_new W _
    have HBX : Hid (Below w.heap.size w X) := HB.out.trans (bX.mono HB.out.size)
    have u0 : X.cell? ⟨W.heap.size, 0, none⟩ = some (.int .i64 x.Op) := by rw [cell_of_row X _ 0 _ _ _ nX]; rfl
    have u2 : X.cell? ⟨W.heap.size, 2, none⟩ = some (.string x.S) := by rw [cell_of_row X _ 2 _ _ _ nX]; rfl
    have v0 := cell_later bX y0
    have v1 := cell_later bX y1
    have hC := HFA.out X HBX.out
    have HXE : Hid (X = _) := hX
    clear hX bX nX
    go_region
    rw [← HXE.out]
    clear f3' g0' g1' g2' g3' hblW hblW2 hwW1 hwW0 y0 y1 z0 z1 HXE hp1 hp2 wrp
    by_cases h8 : x.Op = 8
    case neg =>
      have h8' : (x.Op == 8) = false := by simp [h8]
      have HF : Hid (¬ PP) := fun h => h8 (HPM.out.1 h).1
      clear h8 hC
      go_wp2_with fail
      go_ret
      exact bres_no HF.out HBX.out
    have h8' : (x.Op == 8) = true := by simp [h8]
    have H8 : Hid (x.Op = 8) := h8
    clear h8
    go_wp2_with fail
    refine hC.mono ?_
    clear hC
    rintro e' V ⟨rfl, hB⟩
    have HBV : Hid (Below w.heap.size w V) := HBX.out.trans (hB.mono HBX.out.size)
    obtain ⟨ix, hix⟩ : ∃ z, fnIx c.Fns x.S = z := ⟨_, rfl⟩
    have HIX : Hid (fnIx c.Fns x.S = ix) := hix
    rw [hix]
    clear hix hB
    have HF : Hid ((ix == nx) = true ↔ PP) := by
      show _ ↔ _
      rw [HPM.out, beq_iff_eq, HIX.out]
      exact ⟨fun h => ⟨H8.out, h⟩, fun h => h.2⟩
    go_wp2_with fail
    go_ret
    exact ⟨_, rfl, HF.out, HBV.out⟩

end Go.Proofs.YtkkdnkdkelligaaGreatDoor
