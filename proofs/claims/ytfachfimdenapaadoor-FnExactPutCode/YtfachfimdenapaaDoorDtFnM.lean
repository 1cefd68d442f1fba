/- A struct of the laws as data: Fn; the law's own measure, copy and comparison of it; how it is read. -/
import Derived.Test.YtfachfimdenapaaDoorTmM
import Derived.Test.YtfachfimdenapaaDoorXm2M
import Derived.Test.YtfachfimdenapaaDoorRowFnM
import Derived.Test.YtfachfimdenapaaDoorDtInsM
namespace Go.Proofs.YtfachfimdenapaaDoor
open Go.RowKit Go.ChangeShapes Go.WideShapes Go.Joins Go.Deep
set_option linter.unusedVariables false

structure DFn where
  Name : ByteArray
  Args : Int
  Slots : Int
  Ins : List DIns


def FnR (w : World) (vs : List Value) (x : DFn) : Prop := ∃ v3, vs = [.string x.Name, .int .i64 x.Args, .int .i64 x.Slots, v3] ∧ RowOf 4 InsR w v3 x.Ins

def FnO (w : World) (vs : List Value) (x : DFn) (fp : List Nat) : Prop := ∃ v3 f0, vs = [.string x.Name, .int .i64 x.Args, .int .i64 x.Slots, v3] ∧ fp = f0 ∧ OwnRow 4 48 InsO w v3 x.Ins f0

def WfFn (x : DFn) : Prop := x.Name.size ≤ maxLen ∧ I64 x.Args ∧ I64 x.Slots ∧ WfRow WfIns x.Ins

def szFnD (x : DFn) : Nat := x.Name.size + (szRow szInsD x.Ins)

theorem FnR.lasts : Lasts (FnR) := by
  rintro w w' vs x ⟨v3, rfl, h0⟩ hb
  exact ⟨v3, rfl, (h0.later InsR.lasts hb)⟩

theorem FnO.lasts : LastsO (FnO) := by
  rintro w w' vs x fp ⟨v3, f0, rfl, rfl, h0⟩ hb
  exact ⟨v3, _, rfl, rfl, h0.frame InsO.lasts fun j hj => hb j hj⟩

theorem FnO.reads : Reads (FnO) (FnR) := by
  rintro w vs x fp ⟨v3, f0, rfl, rfl, h0⟩
  exact ⟨v3, rfl, (h0.rd InsO.reads)⟩

theorem FnR.shape : ∀ w vs x, FnR w vs x → ShFn vs := by
  rintro w vs x ⟨v3, rfl, h0⟩
  obtain ⟨q0a3, q0l3, q0c3, rfl⟩ := h0.sl
  exact ⟨_, _, _, _, _, _, rfl⟩

theorem FnO.shape : ∀ w vs x fp, FnO w vs x fp → ShFn vs := fun w vs x fp h => FnR.shape w vs x (FnO.reads w vs x fp h)

set_option maxHeartbeats 4000000 in
theorem szFn_any : SzEl 31 (FnR) (WfFn) (szFnD) := by
  rintro vs x left w ⟨v3, rfl, h0⟩ ⟨wName, wArgs, wSlots, wIns⟩ hl0 hm
  obtain ⟨a3, l3, c3, rfl⟩ := h0.sl
  have hsName : x.Name.size ≤ 9223372036854775807 := by unfold maxLen at wName; omega
  obtain ⟨W, hW⟩ : ∃ W, W = w.alloc (Obj.cells #[.string x.Name, .int .i64 x.Args, .int .i64 x.Slots, .slice a3 l3 c3] 65) := ⟨_, rfl⟩
  have hA : Below w.heap.size w W := by rw [hW]; exact (Below.refl _ _).alloc (Nat.le_refl _) _
  have hWc : W.heap[w.heap.size]? = some (Obj.cells #[.string x.Name, .int .i64 x.Args, .int .i64 x.Slots, .slice a3 l3 c3] 65 (0, 0)) := by rw [hW]; exact heap_alloc_new w _
  obtain ⟨A3, hA3⟩ : ∃ A, szRow szInsD x.Ins = A := ⟨_, rfl⟩
  have e0 : szFnD x = x.Name.size + (A3) := by rw [← hA3]; rfl
  rw [e0]
  obtain ⟨TL, hTL⟩ : ∃ L, lft left (x.Name.size + (A3)) = L := ⟨_, rfl⟩
  rw [hTL]
  have H3 : Hid (∀ V : World, Below w.heap.size w V → ∀ l : Int, 0 ≤ l → l ≤ 1048576 → _) := fun V hV l p1 p2 => szInsS_any (.slice a3 l3 c3) x.Ins l V (h0.later InsR.lasts hV) wIns p1 p2
  rw [hA3] at H3
  have HW : Hid (W = _) := hW
  have HT0 : Hid (TL = lft left (x.Name.size + (A3))) := hTL.symm
  have HB0 : Hid (Below w.heap.size w W ∧ W.heap[w.heap.size]? = some (Obj.cells #[.string x.Name, .int .i64 x.Args, .int .i64 x.Slots, .slice a3 l3 c3] 65 (0, 0))) := ⟨hA, hWc⟩
  clear e0 hTL hW hA hWc hA3 h0 wIns
  by_cases hlt0 : left < (x.Name.size : Int)
  · have HF : Hid ((-1 : Int) = TL) := by show _ = _; rw [HT0.out]; unfold lft; rw [if_neg (by omega)]
    go_enter Tryd.func31, Tryd.ntmps31
    go_wp2
    go_ret
    exact ⟨tret1 HF.out, (by have := HB0.out.1; rw [HW.out] at this; exact this)⟩
  · have HT1 : Hid (TL = lft (left - (x.Name.size : Int)) (A3)) := by
      show _ = _
      rw [HT0.out]
      unfold lft
      by_cases h : ((A3 : Nat) : Int) ≤ (left - (x.Name.size : Int))
      · rw [if_pos h, if_pos (by omega)]; omega
      · rw [if_neg h, if_neg (by omega)]
    have hC := H3.out W HB0.out.1 (left - (x.Name.size : Int)) (by omega) (by omega)
    obtain ⟨y3, hy3⟩ : ∃ y, lft (left - (x.Name.size : Int)) A3 = y := ⟨_, rfl⟩
    have HL3 : Hid (y3 < 0 → y3 = -1) := fun h => by rw [← hy3] at h ⊢; exact lft_neg _ _ h
    have HM3 : Hid (TL = y3) := HT1.out.trans hy3
    rw [hy3] at hC
    clear hy3
    rw [HW.out] at hC
    go_enter Tryd.func31, Tryd.ntmps31
    go_wp2_with fail
    refine hC.mono ?_
    clear hC
    rintro e w3 ⟨rfl, hb3⟩
    rw [← HW.out] at hb3
    have HB4 : Hid (Below w.heap.size w w3 ∧ w3.heap[w.heap.size]? = some (Obj.cells #[.string x.Name, .int .i64 x.Args, .int .i64 x.Slots, .slice a3 l3 c3] 65 (0, 0))) := ⟨HB0.out.1.trans (hb3.mono HB0.out.1.size), (hb3.block _ (lt_row HB0.out.2)).trans HB0.out.2⟩
    clear hb3
    by_cases hneg : y3 < 0
    · have HF : Hid ((-1 : Int) = TL) := by show _ = _; rw [HM3.out]; exact (HL3.out (by omega)).symm
      go_wp2
      go_ret
      exact ⟨tret1 HF.out, HB4.out.1⟩
    · have HF : Hid (y3 = TL) := HM3.out.symm
      go_wp2
      go_ret
      exact ⟨tret1 HF.out, HB4.out.1⟩

theorem szFnS_any : SzLs 13 4 (FnR) (WfFn) (szFnD) := szFnS_of _ _ _ (FnR.lasts) (FnR.shape) (szFn_any)

set_option maxHeartbeats 4000000 in
theorem toFn_any : ToEl 35 (FnR) (FnO) (WfFn) (szFnD) := by
  rintro vs x w ⟨v3, rfl, h0⟩ ⟨wName, wArgs, wSlots, wIns⟩ hz
  have hz' : x.Name.size + (szRow szInsD x.Ins) ≤ 1048576 := hz
  obtain ⟨a3, l3, c3, rfl⟩ := h0.sl
  obtain ⟨W, hW⟩ : ∃ W, W = ((w.alloc (Obj.cells #[.string x.Name, .int .i64 x.Args, .int .i64 x.Slots, .slice a3 l3 c3] 65)).alloc (.cells #[.string ⟨#[]⟩, .int .i64 0, .int .i64 0, .slice none 0 0] 45)).alloc (.cells #[.string x.Name, .int .i64 x.Args, .int .i64 x.Slots, .slice none 0 0] 45) := ⟨_, rfl⟩
  obtain ⟨nA, nB, nC⟩ := heap_three w (Obj.cells #[.string x.Name, .int .i64 x.Args, .int .i64 x.Slots, .slice a3 l3 c3] 65) (.cells #[.string ⟨#[]⟩, .int .i64 0, .int .i64 0, .slice none 0 0] 45) (.cells #[.string x.Name, .int .i64 x.Args, .int .i64 x.Slots, .slice none 0 0] 45)
  rw [← hW] at nA nB nC
  have hWb : Below w.heap.size w W := by rw [hW]; exact (((Below.refl _ _).alloc (Nat.le_refl _) _).alloc (by simp) _).alloc (by simp; omega) _
  have hWs : W.heap.size = w.heap.size + 1 + 1 + 1 := by rw [hW]; simp
  have H3 : Hid (∀ V : World, Below w.heap.size w V → _) := fun V hV => toInsS_any (.slice a3 l3 c3) x.Ins V (h0.later InsR.lasts hV) wIns (by omega)
  have HW : Hid (W = _) := hW
  have HBW : Hid (Below w.heap.size w W) := hWb
  have HN : Hid (_ ∧ _ ∧ _) := ⟨nA, nB, nC⟩
  clear hW nA nB nC hWb hz hz' h0 wIns
  have hC := H3.out W HBW.out
  rw [HW.out] at hC
  go_enter Tryd.func35, Tryd.ntmps35
  go_wp2_with fail
  refine hC.mono ?_
  clear hC
  rintro e w3 ⟨ya3, yl3, yc3, fp3, rfl, hown3, hfr3, hb3⟩
  rw [← HW.out] at hfr3 hb3
  obtain ⟨nA, nB, nC⟩ := HN.out
  have zz3 := hb3.size
  have nA3 := (hb3.block _ (lt_row nA)).trans nA
  have nB3 := (hb3.block _ (lt_row nB)).trans nB
  have nC3 := (hb3.block _ (lt_row nC)).trans nC
  have HR3 : Hid (fp3.Nodup ∧ ∀ g ∈ fp3, W.heap.size ≤ g ∧ g < w3.heap.size) := ⟨hfr3.1, hfr3.2⟩
  have HFIN : Hid (∀ Z, Kept (w.heap.size + 1) (w.heap.size + 1 + 1 + 1) w3 Z → FnO Z [.string x.Name, .int .i64 x.Args, .int .i64 x.Slots, .slice ya3 yl3 yc3] x (fp3) ∧ Fresh w.heap.size Z (fp3) ∧ Below w.heap.size w Z) := fun Z hZ => by
    have hzZ := hZ.size
    have hbw : Below w.heap.size w w3 := HBW.out.trans (hb3.mono HBW.out.size)
    have hwz := hbw.size
    have r3 := HR3.out
    refine ⟨⟨_, fp3, rfl, rfl, hown3.frame InsO.lasts fun g hg => hZ.block g (r3.2 g hg).2 (.inr (by have := (r3.2 g hg).1; omega))⟩, ⟨?_, fun g hg => ?_⟩, ?_⟩
    · exact r3.1
    · have := r3.2 g hg; omega
    · exact hbw.trans (hZ.below (by omega) hbw.size)
  have g0 : w3.cell? ⟨w.heap.size + 1 + 1, 0, none⟩ = some (.string x.Name) := by rw [cell_of_row w3 _ 0 _ _ _ nC3]; rfl
  have z0 : w3.frozen? ⟨w.heap.size + 1 + 1, 0, none⟩ = false := frozen_of_row w3 _ _ _ _ nC3
  have b0 : w3.cell? ⟨w.heap.size + 1, 0, none⟩ = some (.string ⟨#[]⟩) := by rw [cell_of_row w3 _ 0 _ _ _ nB3]; rfl
  have u0 : w3.frozen? ⟨w.heap.size + 1, 0, none⟩ = false := frozen_of_row w3 _ _ _ _ nB3
  have g1 : w3.cell? ⟨w.heap.size + 1 + 1, 1, none⟩ = some (.int .i64 x.Args) := by rw [cell_of_row w3 _ 1 _ _ _ nC3]; rfl
  have z1 : w3.frozen? ⟨w.heap.size + 1 + 1, 1, none⟩ = false := frozen_of_row w3 _ _ _ _ nC3
  have b1 : w3.cell? ⟨w.heap.size + 1, 1, none⟩ = some (.int .i64 0) := by rw [cell_of_row w3 _ 1 _ _ _ nB3]; rfl
  have u1 : w3.frozen? ⟨w.heap.size + 1, 1, none⟩ = false := frozen_of_row w3 _ _ _ _ nB3
  have g2 : w3.cell? ⟨w.heap.size + 1 + 1, 2, none⟩ = some (.int .i64 x.Slots) := by rw [cell_of_row w3 _ 2 _ _ _ nC3]; rfl
  have z2 : w3.frozen? ⟨w.heap.size + 1 + 1, 2, none⟩ = false := frozen_of_row w3 _ _ _ _ nC3
  have b2 : w3.cell? ⟨w.heap.size + 1, 2, none⟩ = some (.int .i64 0) := by rw [cell_of_row w3 _ 2 _ _ _ nB3]; rfl
  have u2 : w3.frozen? ⟨w.heap.size + 1, 2, none⟩ = false := frozen_of_row w3 _ _ _ _ nB3
  have g3 : w3.cell? ⟨w.heap.size + 1 + 1, 3, none⟩ = some (.slice none 0 0) := by rw [cell_of_row w3 _ 3 _ _ _ nC3]; rfl
  have z3 : w3.frozen? ⟨w.heap.size + 1 + 1, 3, none⟩ = false := frozen_of_row w3 _ _ _ _ nC3
  have b3 : w3.cell? ⟨w.heap.size + 1, 3, none⟩ = some (.slice none 0 0) := by rw [cell_of_row w3 _ 3 _ _ _ nB3]; rfl
  have u3 : w3.frozen? ⟨w.heap.size + 1, 3, none⟩ = false := frozen_of_row w3 _ _ _ _ nB3
  clear nA3 nB3 nC3 nA nB nC hown3 hfr3 hb3 HN
  go_wp2_with fail
  refine bodyPost_ret (v := .agg #[.string x.Name, .int .i64 x.Args, .int .i64 x.Slots, .slice ya3 yl3 yc3]) (by first | (simp [results, Tryd.results35, go_sem, b0, b1, b2, b3]; done) | (simp [results, Tryd.results35, go_sem, b0, b1, b2, b3]; rfl)) rfl ⟨[.string x.Name, .int .i64 x.Args, .int .i64 x.Slots, .slice ya3 yl3 yc3], fp3, rfl, HFIN.out _ ?_⟩
  repeat (first | with_reducible exact Kept.refl _ _ _ | with_reducible refine Kept.drew ?_ | (with_reducible refine Kept.set ?_ ?_; omega))

theorem toFnS_any : ToLs 20 4 45 (FnR) (FnO) (WfFn) (szFnD) := toFnS_of _ _ _ _ (FnR.lasts) (FnO.lasts) (FnR.shape) (FnO.shape) (toFn_any)

set_option maxHeartbeats 4000000 in
theorem eqFn_any : EqEl 42 (FnR) (WfFn) := by
  rintro vs1 vs2 x w ⟨v3, rfl, h0⟩ ⟨v3z, rfl, k0⟩ ⟨wName, wArgs, wSlots, wIns⟩
  obtain ⟨a3, l3, c3, rfl⟩ := h0.sl
  obtain ⟨za3, zl3, zc3, rfl⟩ := k0.sl
  obtain ⟨W, hW⟩ : ∃ W, W = (w.alloc (Obj.cells #[.string x.Name, .int .i64 x.Args, .int .i64 x.Slots, .slice a3 l3 c3] 45)).alloc (Obj.cells #[.string x.Name, .int .i64 x.Args, .int .i64 x.Slots, .slice za3 zl3 zc3] 45) := ⟨_, rfl⟩
  have hA : Below w.heap.size w W := by rw [hW]; exact ((Below.refl _ _).alloc (Nat.le_refl _) _).alloc (by simp) _
  have n1 : W.heap[w.heap.size]? = some (Obj.cells #[.string x.Name, .int .i64 x.Args, .int .i64 x.Slots, .slice a3 l3 c3] 45 (0, 0)) := by rw [hW, Below.heap_alloc _ _ _ (by simp)]; exact heap_alloc_new w _
  have n2 : W.heap[w.heap.size + 1]? = some (Obj.cells #[.string x.Name, .int .i64 x.Args, .int .i64 x.Slots, .slice za3 zl3 zc3] 45 (0, 0)) := by rw [hW]; have := heap_alloc_new (w.alloc (Obj.cells #[.string x.Name, .int .i64 x.Args, .int .i64 x.Slots, .slice a3 l3 c3] 45)) (Obj.cells #[.string x.Name, .int .i64 x.Args, .int .i64 x.Slots, .slice za3 zl3 zc3] 45); simpa using this
  have H3 : Hid (∀ V : World, Below w.heap.size w V → _) := fun V hV => eqInsS_any (.slice a3 l3 c3) (.slice za3 zl3 zc3) x.Ins V (h0.later InsR.lasts hV) (k0.later InsR.lasts hV) wIns
  have HW : Hid (W = _) := hW
  have HN : Hid (Below w.heap.size w W ∧ _ ∧ _) := ⟨hA, n1, n2⟩
  clear n1 n2 h0 k0 wIns
  clear hA
  have hC := H3.out W HN.out.1
  rw [hW] at hC
  clear hW
  go_enter Tryd.func42, Tryd.ntmps42
  go_wp2_with fail
  refine hC.mono ?_
  clear hC
  rintro e w3 ⟨rfl, hb3⟩
  rw [← HW.out] at hb3
  have HN3 : Hid (Below w.heap.size w w3 ∧ _ ∧ _) := ⟨HN.out.1.trans (hb3.mono HN.out.1.size), (hb3.block _ (lt_row HN.out.2.1)).trans HN.out.2.1, (hb3.block _ (lt_row HN.out.2.2)).trans HN.out.2.2⟩
  clear hb3
  go_wp2
  go_ret
  exact ⟨rfl, HN3.out.1⟩

theorem eqFnS_any : EqLs 27 4 (FnR) (WfFn) := eqFnS_of _ _ (FnR.lasts) (FnR.shape) (eqFn_any)

theorem Fn_at {n c : Nat} {w : World} {a : Option Addr} {m : List DFn} (h : RowOf 4 (FnR) w (.slice a n c) m) (i : Nat) (x : DFn) (hx : m[i]? = some x) : ∃ (b o : Nat) (a3 : Option Addr) (c3 : Nat), a = some ⟨b, o, none⟩ ∧ w.cell? ⟨b, o + i * 4, none⟩ = some (.string x.Name) ∧ w.cell? ⟨b, o + i * 4 + 1, none⟩ = some (.int .i64 x.Args) ∧ w.cell? ⟨b, o + i * 4 + 2, none⟩ = some (.int .i64 x.Slots) ∧ w.cell? ⟨b, o + i * 4 + 3, none⟩ = some (.slice a3 x.Ins.length c3) ∧ RowOf 4 InsR w (.slice a3 x.Ins.length c3) x.Ins := by
  obtain ⟨a', c', e, hel⟩ := h
  cases e
  obtain ⟨b, o, vs, h2, h3, h4, v3, rfl, g0⟩ := hel i x hx
  obtain ⟨a3, c3, rfl⟩ := g0.slice
  exact ⟨b, o, a3, c3, h2, h4 0 _ rfl, h4 1 _ rfl, h4 2 _ rfl, h4 3 _ rfl, g0⟩

theorem Tryd.cellsFn : Tryd.prog.cellsOf 65 = 4 := by kernel_rfl
theorem Tryd.cellsFns : Tryd.prog.cellsOf 22 = 1 := by kernel_rfl
section
variable {H : Type} {enc : TypeId × Value → H} {W : World} {base : Nat} {spare : Nat → Bool} {held : Bool}

set_option maxRecDepth 100000 in
theorem read_FnC (m : Nat) (cs : List Value) (x : DataW H × List MemPlace) (h : DataW.trod enc Tryd.prog W base spare held m 65 cs = some x) (hl : cs.length = 4) : ∃ f : DFn, FnR W cs f ∧ WfFn f := by
  obtain ⟨c0, c1, c2, c3, rfl⟩ : ∃ c0 c1 c2 c3, cs = [c0, c1, c2, c3] := by
    match cs, hl with
    | [c0, c1, c2, c3], _ => exact ⟨c0, c1, c2, c3, rfl⟩
  obtain ⟨xs, m, rfl, _, _, hxl, hf⟩ := DataW.trod_struct Tryd.underlying65 h
  have hxl' : xs.length = 4 := hxl
  have h0 : DataW.trod enc Tryd.prog W base spare held m 9 [c0] = xs[0]? := by have := hf 0 _ rfl; simpa [Tryd.cells3, Tryd.cells9, Tryd.cellsInss] using this
  have h1 : DataW.trod enc Tryd.prog W base spare held m 3 [c1] = xs[1]? := by have := hf 1 _ rfl; simpa [Tryd.cells3, Tryd.cells9, Tryd.cellsInss] using this
  have h2 : DataW.trod enc Tryd.prog W base spare held m 3 [c2] = xs[2]? := by have := hf 2 _ rfl; simpa [Tryd.cells3, Tryd.cells9, Tryd.cellsInss] using this
  have h3 : DataW.trod enc Tryd.prog W base spare held m 63 [c3] = xs[3]? := by have := hf 3 _ rfl; simpa [Tryd.cells3, Tryd.cells9, Tryd.cellsInss] using this
  rw [List.getElem?_eq_getElem (by omega)] at h0 h1 h2 h3
  obtain ⟨x0, e0, _, q0⟩ := DataW.trod_string Tryd.underlying9 h0
  obtain ⟨x1, e1, _, q1⟩ := DataW.trod_int Tryd.underlying3 h1
  obtain ⟨x2, e2, _, q2⟩ := DataW.trod_int Tryd.underlying3 h2
  simp only [List.cons.injEq, and_true] at e0 e1 e2
  subst e0 e1 e2
  obtain ⟨x3, r3, q3⟩ := read_row (R := InsR) (P := WfIns) Tryd.underlying63 Tryd.cellsIns (by omega) (fun n hn cs x hx hl => read_InsC n  cs x hx hl) h3
  exact ⟨⟨x0, x1, x2, x3⟩, ⟨_, rfl, r3⟩, q0, bounds_i64 q1, bounds_i64 q2, q3⟩

theorem read_Fns {m : Nat} {v : Value} {x : DataW H × List MemPlace} (h : DataW.trod enc Tryd.prog W base spare held m 22 [v] = some x) : ∃ l : List DFn, RowOf 4 (FnR) W v l ∧ WfRow (WfFn) l :=
  read_row (R := FnR) (P := WfFn) Tryd.underlying22 Tryd.cellsFn (by omega) (fun n hn cs x hx hl => read_FnC n  cs x hx hl) h
end

end Go.Proofs.YtfachfimdenapaaDoor
