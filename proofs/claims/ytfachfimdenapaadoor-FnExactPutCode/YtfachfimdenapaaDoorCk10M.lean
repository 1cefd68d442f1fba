/- A function, and code: whether it is right: the program's. -/
import Derived.Test.YtfachfimdenapaaDoorCk9M
import Derived.Test.YtfachfimdenapaaDoorCk6M
namespace Go.Proofs.YtfachfimdenapaaDoor
open Go.RowKit
set_option linter.unusedVariables false

def FfP {d : Nat} (c : DCode d) (nm : ByteArray) (ag sl : Int) (l : List DIns) : Prop :=
  (AtomP nm ∧ ¬ Wrd nm) ∧ (0 ≤ ag ∧ ag ≤ 4) ∧ (ag ≤ sl ∧ sl ≤ 400) ∧ (1 ≤ l.length ∧ l.length ≤ 1500) ∧ (∀ x ∈ l, InsP c sl x.Op x.N x.S x.To) ∧ ∃ q, rnP l.length 0 l (hs0 l.length) = some q

set_option maxRecDepth 100000 in
set_option maxHeartbeats 4000000 in
theorem fnFits_any {d : Nat} (a0 : Option Addr) (l0 c0 : Nat) (a1 : Option Addr) (l1 c1 : Nat) (c : DCode d) (nm : ByteArray) (ag sl : Int) (a3 : Option Addr) (l3 c3 : Nat) (l : List DIns) (w : World)
    (hc : CodeR d w [.slice a0 l0 c0, .slice a1 l1 c1] c) (hwc : WfCode d c) (hz : szCodeD d c ≤ 1048576) (hf : RowOf 4 InsR w (.slice a3 l3 c3) l) (hl : l.length = l3) (hwl : WfRow WfIns l) (hl1 : l3 ≤ 1048576) (hnm : nm.size ≤ 9223372036854775807) (ht : ShOk w) :
    Calls Tryd.prog 56 #[.agg #[.slice a0 l0 c0, .slice a1 l1 c1], .agg #[.string nm, .int .i64 ag, .int .i64 sl, .slice a3 l3 c3]] w fun e w' => BRes (FfP c nm ag sl l) w e w' := by
  obtain ⟨PP, hPP⟩ : ∃ P : Prop, FfP c nm ag sl l = P := ⟨_, rfl⟩
  have HPP : Hid (FfP c nm ag sl l = PP) := hPP
  rw [hPP]
  clear hPP
  obtain ⟨W, hW⟩ : ∃ W, W = (w.alloc (.cells #[.slice a0 l0 c0, .slice a1 l1 c1] 32)).alloc (.cells #[.string nm, .int .i64 ag, .int .i64 sl, .slice a3 l3 c3] 45) := ⟨_, rfl⟩
  have hA : Below w.heap.size w W := by rw [hW]; exact ((Below.refl _ _).alloc (Nat.le_refl _) _).alloc (by simp) _
  have nB : W.heap[w.heap.size + 1]? = some (.cells #[.string nm, .int .i64 ag, .int .i64 sl, .slice a3 l3 c3] 45 (0, 0)) := by
    rw [hW, show w.heap.size + 1 = (w.alloc (.cells #[.slice a0 l0 c0, .slice a1 l1 c1] 32)).heap.size from by simp]; exact heap_alloc_new _ _
  have nA : W.heap[w.heap.size]? = some (.cells #[.slice a0 l0 c0, .slice a1 l1 c1] 32 (0, 0)) := by
    rw [hW, (((Below.refl _ _).alloc (Nat.le_refl _) _).block w.heap.size (by simp))]; exact heap_alloc_new _ _
  have HB : Hid (Below w.heap.size w W) := hA
  have HBX : Hid (∀ V : World, Below W.heap.size W V → V.cell? ⟨w.heap.size, 0, none⟩ = some (.slice a0 l0 c0) ∧ V.cell? ⟨w.heap.size, 1, none⟩ = some (.slice a1 l1 c1) ∧ V.cell? ⟨w.heap.size + 1, 0, none⟩ = some (.string nm) ∧ V.cell? ⟨w.heap.size + 1, 1, none⟩ = some (.int .i64 ag) ∧ V.cell? ⟨w.heap.size + 1, 2, none⟩ = some (.int .i64 sl) ∧ V.cell? ⟨w.heap.size + 1, 3, none⟩ = some (.slice a3 l3 c3) ∧ w.heap.size + 1 < V.heap.size) := fun V hV => by
    have mA := (hV.block _ (lt_row nA)).trans nA
    have mB := (hV.block _ (lt_row nB)).trans nB
    exact ⟨by rw [cell_of_row V _ 0 _ _ _ mA]; rfl, by rw [cell_of_row V _ 1 _ _ _ mA]; rfl, by rw [cell_of_row V _ 0 _ _ _ mB]; rfl, by rw [cell_of_row V _ 1 _ _ _ mB]; rfl, by rw [cell_of_row V _ 2 _ _ _ mB]; rfl, by rw [cell_of_row V _ 3 _ _ _ mB]; rfl, lt_row mB⟩
  obtain ⟨x0, x1, y0, y1, y2, y3, hWl⟩ := HBX.out W (Below.refl _ _)
  have HIF : Hid (0 ≤ sl → sl ≤ 400 → ∀ V : World, Below w.heap.size w V → ∀ x ∈ l, Calls Tryd.prog 71 #[.agg #[.slice a0 l0 c0, .slice a1 l1 c1], .agg #[.string nm, .int .i64 ag, .int .i64 sl, .slice a3 l3 c3], .agg #[.int .i64 x.Op, .int .i64 x.N, .string x.S, .int .i64 x.To]] V fun e w' => BRes (InsP c sl x.Op x.N x.S x.To) V e w') := fun s0 s1 V hV x hx => by
    have wx := hwl.2 x hx
    exact insFits_any a0 l0 c0 a1 l1 c1 c nm ag sl (.slice a3 l3 c3) x.Op x.N x.S x.To V (CodeR.lasts d _ _ _ _ hc hV) hwc hz (ht.later hV) (by have := wx.2.2.1; unfold maxLen at this; omega) wx.2.1 s0 s1
  have HRW : Hid (∀ V : World, Below w.heap.size w V → RowOf 4 InsR V (.slice a3 l3 c3) l) := fun V hV => hf.later InsR.lasts hV
  have HL : Hid (l.length = l3) := hl
  have hC := exprAtomOk_any nm W hnm
  rw [hW] at hC
  have HW : Hid (W = _) := hW
  clear hc hwc hz hf hl hwl ht hA nA nB
  go_enter Tryd.func56, Tryd.ntmps56
  go_wp2_with fail
  refine hC.mono ?_
  clear hC
  rintro e V ⟨b, rfl, hb, hV⟩
  obtain rfl : W = V := HW.out.trans hV
  clear hV HW hW
  cases b with
  | false =>
    have HF : Hid (¬ PP) := by rw [← HPP.out]; exact fun h => by have := hb.2 h.1; cases this
    clear hb
    go_wp2_with fail
    go_ret
    exact bres_no HF.out HB.out
  | true =>
  have HAT : Hid (AtomP nm ∧ ¬ Wrd nm) := hb.1 rfl
  clear hb
  by_cases k0 : ag < 0
  · have HF : Hid (¬ PP) := by rw [← HPP.out]; exact fun h => by have := h.2.1.1; omega
    go_wp2_with fail
    go_ret
    exact bres_no HF.out HB.out
  by_cases k1 : 4 < ag
  · have HF : Hid (¬ PP) := by rw [← HPP.out]; exact fun h => by have := h.2.1.2; omega
    go_wp2_with fail
    go_ret
    exact bres_no HF.out HB.out
  by_cases k2 : sl < ag
  · have HF : Hid (¬ PP) := by rw [← HPP.out]; exact fun h => by have := h.2.2.1.1; omega
    go_wp2_with fail
    go_ret
    exact bres_no HF.out HB.out
  by_cases k3 : 400 < sl
  · have HF : Hid (¬ PP) := by rw [← HPP.out]; exact fun h => by have := h.2.2.1.2; omega
    go_wp2_with fail
    go_ret
    exact bres_no HF.out HB.out
  by_cases m0 : l3 < 1
  · have HF : Hid (¬ PP) := by rw [← HPP.out]; exact fun h => by have := h.2.2.2.1.1; have := HL.out; omega
    have m0' : (l3 : Int) < 1 := by omega
    go_wp2_with fail
    go_ret
    exact bres_no HF.out HB.out
  by_cases m1 : 1500 < l3
  · have HF : Hid (¬ PP) := by rw [← HPP.out]; exact fun h => by have := h.2.2.2.1.2; have := HL.out; omega
    have m1' : 1500 < (l3 : Int) := by omega
    go_wp2_with fail
    go_ret
    exact bres_no HF.out HB.out
  have m0' : decide ((l3 : Int) < 1) = false := by simp; omega
  have m1' : decide (1500 < (l3 : Int)) = false := by simp; omega
  have HKS : Hid ((0 ≤ ag ∧ ag ≤ 4) ∧ (ag ≤ sl ∧ sl ≤ 400) ∧ (1 ≤ l3 ∧ l3 ≤ 1500)) := ⟨⟨by omega, by omega⟩, ⟨by omega, by omega⟩, by omega, by omega⟩
  have HSL : Hid (0 ≤ sl ∧ sl ≤ 400) := ⟨by omega, by omega⟩
  go_wp2_with fail
  go_loopw [50] (fun i wr => ∃ j : Nat, j ≤ l3 ∧ i = .int .i64 j ∧ Hid (Below W.heap.size W wr) ∧ Hid (∀ x ∈ l.take j, InsP c sl x.Op x.N x.S x.To)) (fun i _ => l3 - (intOf i).toNat)
  case atStart => exact ⟨0, Nat.zero_le _, rfl, Below.refl _ _, fun x hx => by simp at hx⟩
  case round =>
    obtain ⟨j, hj, rfl, HBj, HOJ⟩ := hrel
    have bW : Below w.heap.size w wr := HB.out.trans (HBj.out.mono HB.out.size)
    have HBW : Hid (Below w.heap.size w wr) := bW
    obtain ⟨u0, u1, v0, v1, v2, v3, hwl⟩ := HBX.out wr HBj.out
    have hwl0 : w.heap.size < wr.heap.size := by omega
    by_cases hjl : j < l3
    · obtain ⟨x, hx⟩ : ∃ x, l[j]? = some x := ⟨_, List.getElem?_eq_getElem (by have := HL.out; omega)⟩
      obtain ⟨b, o, rfl, f0, f1, f2, f3⟩ := Ins_at (HRW.out wr bW) j x hx
      have hjl' : (j : Int) < (l3 : Int) := by omega
      have hbl : b < wr.heap.size := by have := World.block_lt_of_cell? wr _ f0; simpa using this
      have hC := fun V hV => HIF.out HSL.out.1 HSL.out.2 V hV x (List.mem_of_getElem? hx)
      have HX : Hid (l[j]? = some x) := hx
      have bA : Below wr.heap.size wr (wr.alloc (.cells #[.int .i64 x.Op, .int .i64 x.N, .string x.S, .int .i64 x.To] 48)) := (Below.refl _ _).alloc (Nat.le_refl _) _
      have hC2 := hC _ (bW.trans (bA.mono bW.size))
      have HBA : Hid (Below wr.heap.size wr _) := bA
      clear hx bW bA hC
      go_wp2_with fail
      refine hC2.mono ?_
      clear hC2
      rintro e w' ⟨b', rfl, hb', hB'⟩
      have HB2 : Hid (Below W.heap.size W w') := by
        have b1 := HBj.out.trans (HBA.out.mono HBj.out.size)
        exact b1.trans (hB'.mono b1.size)
      have HB3 : Hid (Below w.heap.size w w') := HB.out.trans (HB2.out.mono HB.out.size)
      clear hB' f0 f1 f2 f3
      cases b' with
      | false =>
        have HF : Hid (¬ PP) := by rw [← HPP.out]; exact fun h => by have := hb'.2 (h.2.2.2.2.1 x (List.mem_of_getElem? HX.out)); cases this
        clear hb'
        go_wp2_with fail
        go_ret
        exact bres_no HF.out HB3.out
      | true =>
        have HN : Hid (∀ x ∈ l.take (j + 1), InsP c sl x.Op x.N x.S x.To) := fun y hy => by
          rcases mem_take_next HX.out hy with h | rfl
          · exact HOJ.out y h
          · exact hb'.1 rfl
        clear hb' HOJ
        go_wp2_with fail
        go_roundw
        case rel => exact ⟨j + 1, by omega, by go_num, HB2, HN⟩
        case measure => simp [intOf]; omega
    · obtain rfl : j = l3 := by omega
      have hjl' : decide ((j : Int) < (j : Int)) = false := by simp
      have HALL : Hid (∀ x ∈ l, InsP c sl x.Op x.N x.S x.To) := fun x hx => HOJ.out x (by rw [← HL.out, List.take_length]; exact hx)
      have hC := heightsOf_any l a3 j c3 wr (HRW.out wr bW) HL.out (by omega) (by omega) (fun x hx => (HALL.out x hx).op)
      clear bW HOJ
      go_wp2_with fail
      refine hC.mono ?_
      clear hC
      rintro e w' ⟨v, b', rfl, g1, g2, hB'⟩
      have HB3 : Hid (Below w.heap.size w w') := HBW.out.trans (hB'.mono HBW.out.size)
      have HF : Hid (b' = true ↔ PP) := by
        rw [← HPP.out]
        constructor
        · intro h
          obtain ⟨q, _, _, e1, _⟩ := g1 h
          exact ⟨HAT.out, HKS.out.1, HKS.out.2.1, by rw [HL.out]; exact HKS.out.2.2, HALL.out, q, by rw [HL.out]; exact e1⟩
        · rintro ⟨_, _, _, _, _, q, hq⟩
          rw [HL.out] at hq
          cases b' with
          | true => rfl
          | false => rw [g2 rfl] at hq; cases hq
      clear g1 g2 hB'
      go_wp2_with fail
      go_ret
      exact bres_after HF.out HB3.out

set_option maxRecDepth 100000 in
set_option maxHeartbeats 4000000 in
theorem implCodeOk_any (d : Nat) (vs : List Value) (c : DCode d) (w : World) (hc : CodeR d w vs c) (hwc : WfCode d c) (hz : szCodeD d c ≤ 1048576) (ht : ShOk w) :
    Calls Tryd.prog 37 #[.agg vs.toArray] w fun e w' => BRes (pCodeOk d c) w e w' := by
  obtain ⟨a0, l0, c0, a1, l1, c1, rfl⟩ := CodeR.shape _ _ _ _ hc
  obtain ⟨PP, hPP⟩ : ∃ P : Prop, pCodeOk d c = P := ⟨_, rfl⟩
  have HPP : Hid (pCodeOk d c = PP) := hPP
  rw [hPP]
  clear hPP
  obtain ⟨W, hW⟩ : ∃ W, W = w.alloc (.cells #[.slice a0 l0 c0, .slice a1 l1 c1] 32) := ⟨_, rfl⟩
  have hA : Below w.heap.size w W := by rw [hW]; exact (Below.refl _ _).alloc (Nat.le_refl _) _
  have nA : W.heap[w.heap.size]? = some (.cells #[.slice a0 l0 c0, .slice a1 l1 c1] 32 (0, 0)) := by rw [hW]; exact heap_alloc_new w _
  have HB : Hid (Below w.heap.size w W) := hA
  have HBX : Hid (∀ V : World, Below W.heap.size W V → V.cell? ⟨w.heap.size, 0, none⟩ = some (.slice a0 l0 c0) ∧ V.cell? ⟨w.heap.size, 1, none⟩ = some (.slice a1 l1 c1) ∧ w.heap.size < V.heap.size) := fun V hV => by
    have mA := (hV.block _ (lt_row nA)).trans nA
    exact ⟨by rw [cell_of_row V _ 0 _ _ _ mA]; rfl, by rw [cell_of_row V _ 1 _ _ _ mA]; rfl, lt_row mA⟩
  obtain ⟨x0, x1, hWl⟩ := HBX.out W (Below.refl _ _)
  have hcc := hc
  obtain ⟨w0, w1, e0, hF, hP⟩ := hcc
  simp only [List.cons.injEq, and_true] at e0
  obtain ⟨rfl, rfl⟩ := e0
  obtain ⟨aa, cc, ee⟩ := hF.slice
  simp only [Value.slice.injEq] at ee
  obtain ⟨-, el, -⟩ := ee
  obtain ⟨aa, cc, ee⟩ := hP.slice
  simp only [Value.slice.injEq] at ee
  obtain ⟨-, el1, -⟩ := ee
  have HLN : Hid (c.Fns.length = l0 ∧ l0 ≤ 1048576 ∧ c.Pats.length = l1 ∧ l1 ≤ 1048576) := ⟨el.symm, by have := szRow_len szFnD c.Fns; unfold szCodeD at hz; omega, el1.symm, by have := szRow_len (szPatD d) c.Pats; unfold szCodeD at hz; omega⟩
  have HRW : Hid (∀ V : World, Below w.heap.size w V → RowOf 4 FnR V (.slice a0 l0 c0) c.Fns) := fun V hV => hF.later FnR.lasts hV
  have HFA : Hid (∀ V : World, Below w.heap.size w V → ∀ s : ByteArray, Calls Tryd.prog 55 #[.agg #[.slice a0 l0 c0, .slice a1 l1 c1], .string s] V fun e w' => e = .returned (.int .i64 (fnIx c.Fns s)) ∧ Below V.heap.size V w') := fun V hV s =>
    fnAt_any (.slice a0 l0 c0) (.slice a1 l1 c1) c.Fns s V (hF.later FnR.lasts hV) (by have := HLN.out; omega)
  have HFF : Hid (∀ V : World, Below w.heap.size w V → ∀ f ∈ c.Fns, ∀ (a3 : Option Addr) (c3 : Nat), RowOf 4 InsR V (.slice a3 f.Ins.length c3) f.Ins → Calls Tryd.prog 56 #[.agg #[.slice a0 l0 c0, .slice a1 l1 c1], .agg #[.string f.Name, .int .i64 f.Args, .int .i64 f.Slots, .slice a3 f.Ins.length c3]] V fun e w' => BRes (FfP c f.Name f.Args f.Slots f.Ins) V e w') := fun V hV f hf a3 c3 hrw => by
    have wf := hwc.1.2 f hf
    refine fnFits_any a0 l0 c0 a1 l1 c1 c f.Name f.Args f.Slots a3 f.Ins.length c3 f.Ins V (CodeR.lasts d _ _ _ _ hc hV) hwc hz hrw rfl wf.2.2.2 ?_ (by have := wf.1; unfold maxLen at this; omega) (ht.later hV)
    obtain ⟨i, hi, e⟩ := List.getElem_of_mem hf
    have h5 := szRow_mem (f := szFnD) (xs := c.Fns) (i := i) (x := f) (by rw [List.getElem?_eq_getElem hi, e])
    have h6 := szRow_len szInsD f.Ins
    have h7 : szFnD f = f.Name.size + szRow szInsD f.Ins := rfl
    unfold szCodeD at hz
    omega
  have hl0 : l0 ≤ 1048576 := HLN.out.2.1
  have hl1 : l1 ≤ 1048576 := HLN.out.2.2.2
  clear hc hwc hz ht hF hP el el1 nA hA
  by_cases k0 : 12 < l0
  · have HF : Hid (¬ PP) := by rw [← HPP.out]; exact fun h => by have := h.1; have := HLN.out; omega
    have k0' : 12 < (l0 : Int) := by omega
    rw [hW] at HB
    go_enter Tryd.func37, Tryd.ntmps37
    go_wp2_with fail
    go_ret
    exact bres_no HF.out HB.out
  have k0' : decide (12 < (l0 : Int)) = false := by simp; omega
  by_cases k1 : 2000 < l1
  · have HF : Hid (¬ PP) := by rw [← HPP.out]; exact fun h => by have := h.2.1; have := HLN.out; omega
    have k1' : 2000 < (l1 : Int) := by omega
    rw [hW] at HB
    go_enter Tryd.func37, Tryd.ntmps37
    go_wp2_with fail
    go_ret
    exact bres_no HF.out HB.out
  have k1' : decide (2000 < (l1 : Int)) = false := by simp; omega
  have HKS : Hid (c.Fns.length ≤ 12 ∧ c.Pats.length ≤ 2000) := ⟨by have := HLN.out; omega, by have := HLN.out; omega⟩
  go_enter Tryd.func37, Tryd.ntmps37
  go_wp2_with fail
  rw [← hW]
  clear hW k0 k1 k0' k1'
  go_loopw [18] (fun i wr => ∃ j : Nat, j ≤ l0 ∧ i = .int .i64 j ∧ Hid (Below W.heap.size W wr) ∧ Hid (∀ (i : Nat) (f : DFn), i < j → c.Fns[i]? = some f → FnP c i f)) (fun i _ => l0 - (intOf i).toNat)
  case atStart => exact ⟨0, Nat.zero_le _, rfl, Below.refl _ _, fun i f hi => by omega⟩
  case round =>
    obtain ⟨j, hj, rfl, HBj, HOJ⟩ := hrel
    have bW : Below w.heap.size w wr := HB.out.trans (HBj.out.mono HB.out.size)
    have HBW : Hid (Below w.heap.size w wr) := bW
    obtain ⟨u0, u1, hwl⟩ := HBX.out wr HBj.out
    by_cases hjl : j < l0
    · obtain ⟨f, hf⟩ : ∃ x, c.Fns[j]? = some x := ⟨_, List.getElem?_eq_getElem (by have := HLN.out; omega)⟩
      obtain ⟨b, o, a3, c3, rfl, f0, f1, f2, f3, hrow⟩ := Fn_at (HRW.out wr bW) j f hf
      have hjl' : (j : Int) < (l0 : Int) := by omega
      have hbl : b < wr.heap.size := by have := World.block_lt_of_cell? wr _ f0; simpa using this
      have HX : Hid (c.Fns[j]? = some f) := hf
      have bA : Below wr.heap.size wr (wr.alloc (.cells #[.string f.Name, .int .i64 f.Args, .int .i64 f.Slots, .slice a3 f.Ins.length c3] 45)) := (Below.refl _ _).alloc (Nat.le_refl _) _
      have nF : (wr.alloc (.cells #[.string f.Name, .int .i64 f.Args, .int .i64 f.Slots, .slice a3 f.Ins.length c3] 45)).heap[wr.heap.size]? = some (.cells #[.string f.Name, .int .i64 f.Args, .int .i64 f.Slots, .slice a3 f.Ins.length c3] 45 (0, 0)) := heap_alloc_new _ _
      obtain ⟨X, hX⟩ : ∃ X, wr.alloc (.cells #[.string f.Name, .int .i64 f.Args, .int .i64 f.Slots, .slice a3 f.Ins.length c3] 45) = X := ⟨_, rfl⟩
      rw [hX] at bA nF
      have HX1 : Hid (Below W.heap.size W X ∧ Below w.heap.size w X) := ⟨HBj.out.trans (bA.mono HBj.out.size), bW.trans (bA.mono bW.size)⟩
      have HNF : Hid (X.heap[wr.heap.size]? = _) := nF
      have HRWX : Hid (∀ V : World, Below w.heap.size w V → Below X.heap.size X V → RowOf 4 InsR V (.slice a3 f.Ins.length c3) f.Ins) := fun V _ hV => (hrow.later InsR.lasts bA).later InsR.lasts hV
      have hC := HFA.out X HX1.out.2 f.Name
      rw [← hX] at hC
      have HXE : Hid (wr.alloc _ = X) := hX
      clear hf bW bA nF hX hrow
      go_wp2_with fail
      refine hC.mono ?_
      clear hC
      rintro e V ⟨rfl, hB'⟩
      rw [HXE.out] at hB'
      have HBV : Hid (Below W.heap.size W V ∧ Below w.heap.size w V) := ⟨HX1.out.1.trans (hB'.mono HX1.out.1.size), HX1.out.2.trans (hB'.mono HX1.out.2.size)⟩
      have nF := (hB'.block _ (lt_row HNF.out)).trans HNF.out
      have HRV : Hid (RowOf 4 InsR V (.slice a3 f.Ins.length c3) f.Ins) := HRWX.out V HBV.out.2 hB'
      have g0 : V.cell? ⟨wr.heap.size, 0, none⟩ = some (.string f.Name) := by rw [cell_of_row V _ 0 _ _ _ nF]; rfl
      have g1 : V.cell? ⟨wr.heap.size, 1, none⟩ = some (.int .i64 f.Args) := by rw [cell_of_row V _ 1 _ _ _ nF]; rfl
      have g2 : V.cell? ⟨wr.heap.size, 2, none⟩ = some (.int .i64 f.Slots) := by rw [cell_of_row V _ 2 _ _ _ nF]; rfl
      have g3 : V.cell? ⟨wr.heap.size, 3, none⟩ = some (.slice a3 f.Ins.length c3) := by rw [cell_of_row V _ 3 _ _ _ nF]; rfl
      obtain ⟨t0, t1, _⟩ := HBX.out V HBV.out.1
      clear hB' nF HX1 HNF HRWX HXE f0 f1 f2 f3 u0 u1
      by_cases hi : fnIx c.Fns f.Name = j
      · rw [hi]
        have hij : ((j : Int) != (j : Int)) = false := by simp
        have hC := HFF.out V HBV.out.2 f (List.mem_of_getElem? HX.out) a3 c3 HRV.out
        have HIJ : Hid (fnIx c.Fns f.Name = j) := hi
        clear hi
        go_wp2_with fail
        refine hC.mono ?_
        clear hC
        rintro e V2 ⟨b', rfl, hb', hB2⟩
        have HB2 : Hid (Below W.heap.size W V2 ∧ Below w.heap.size w V2) := ⟨HBV.out.1.trans (hB2.mono HBV.out.1.size), HBV.out.2.trans (hB2.mono HBV.out.2.size)⟩
        clear hB2 g0 g1 g2 g3 t0 t1
        cases b' with
        | false =>
          have HF : Hid (¬ PP) := by
            rw [← HPP.out]
            exact fun h => by
              obtain ⟨r1, _, r2⟩ := h.2.2 j f HX.out
              have := hb'.2 ⟨r1, r2⟩
              cases this
          clear hb'
          go_wp2_with fail
          go_ret
          exact bres_no HF.out HB2.out.2
        | true =>
          have HN : Hid (∀ (i : Nat) (f : DFn), i < j + 1 → c.Fns[i]? = some f → FnP c i f) := fun i y hi hy => by
            rcases Nat.lt_or_ge i j with q | q
            · exact HOJ.out i y q hy
            · obtain rfl : i = j := by omega
              rw [HX.out] at hy
              cases hy
              have := hb'.1 rfl
              exact ⟨this.1, HIJ.out, this.2⟩
          have HB4 : Hid (Below W.heap.size W V2) := HB2.out.1
          clear hb' HOJ
          go_wp2_with fail
          go_roundw
          case rel => exact ⟨j + 1, by omega, by go_num, HB4, HN⟩
          case measure => simp [intOf]; omega
      · have hij : ((fnIx c.Fns f.Name) != (j : Int)) = true := by simpa using hi
        have HF : Hid (¬ PP) := by rw [← HPP.out]; exact fun h => hi (h.2.2 j f HX.out).2.1
        have HB3 : Hid (Below w.heap.size w V) := HBV.out.2
        obtain ⟨ix, hix⟩ : ∃ x, fnIx c.Fns f.Name = x := ⟨_, rfl⟩
        rw [hix] at hij ⊢
        clear hi hix
        go_wp2_with fail
        go_ret
        exact bres_no HF.out HB3.out
    · obtain rfl : j = l0 := by omega
      have hjl' : decide ((j : Int) < (j : Int)) = false := by simp
      have HF : Hid PP := by rw [← HPP.out]; exact ⟨HKS.out.1, HKS.out.2, fun i f hf => HOJ.out i f (by have := (List.getElem?_eq_some_iff.1 hf).1; have := HLN.out; omega) hf⟩
      clear bW HOJ
      go_wp2_with fail
      go_ret
      exact bres_yes HF.out HBW.out

end Go.Proofs.YtfachfimdenapaaDoor
