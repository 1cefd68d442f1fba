/- An instruction: whether it is right but for where it leads to: the program's. -/
import Derived.Test.YtfachfimdenapaaDoorCk5M
namespace Go.Proofs.YtfachfimdenapaaDoor
open Go.RowKit
set_option linter.unusedVariables false

theorem bres_after {P : Prop} {w w' : World} {b : Bool} (h : b = true ↔ P) (hb : Below w.heap.size w w') : BRes P w (.returned (.bool b)) w' := ⟨b, rfl, h, hb⟩

set_option maxRecDepth 100000 in
set_option maxHeartbeats 4000000 in
theorem shaped_no (op n : Int) (s : ByteArray) (tq : Int) (w : World) (h : op < 1 ∨ 12 < op) :
    Calls Tryd.prog 76 #[.agg #[.int .i64 op, .int .i64 n, .string s, .int .i64 tq]] w fun e w' => e = .returned (.bool false) ∧ Below w.heap.size w w' := by
  have hA : Below w.heap.size w (w.alloc (.cells #[.int .i64 op, .int .i64 n, .string s, .int .i64 tq] 48)) := (Below.refl _ _).alloc (Nat.le_refl _) _
  by_cases h1 : op < 1
  · clear h
    go_enter Tryd.func76, Tryd.ntmps76
    go_wp2_with fail
    go_ret
    exact ⟨rfl, hA⟩
  · have h2 : 12 < op := by omega
    clear h
    go_enter Tryd.func76, Tryd.ntmps76
    go_wp2_with fail
    go_ret
    exact ⟨rfl, hA⟩

set_option maxRecDepth 100000 in
set_option maxHeartbeats 4000000 in
theorem insFits_1 {d : Nat} (a0 : Option Addr) (l0 c0 : Nat) (a1 : Option Addr) (l1 c1 : Nat) (c : DCode d) (nm : ByteArray) (ag sl : Int) (v3 : Value) (n : Int) (s : ByteArray) (tq : Int) (w : World)
    (hc : CodeR d w [.slice a0 l0 c0, .slice a1 l1 c1] c) (hwc : WfCode d c) (hz : szCodeD d c ≤ 1048576) (ht : ShOk w) (hs : s.size ≤ 9223372036854775807) (hn : I64 n) (hsl0 : 0 ≤ sl) (hsl1 : sl ≤ 400) :
    Calls Tryd.prog 71 #[.agg #[.slice a0 l0 c0, .slice a1 l1 c1], .agg #[.string nm, .int .i64 ag, .int .i64 sl, v3], .agg #[.int .i64 1, .int .i64 n, .string s, .int .i64 tq]] w fun e w' => BRes (InsP c sl 1 n s tq) w e w' := by
  obtain ⟨PP, hPP⟩ : ∃ P : Prop, InsP c sl 1 n s tq = P := ⟨_, rfl⟩
  have HP0 : Hid (InsP c sl 1 n s tq = PP) := hPP
  rw [hPP]
  clear hPP
  obtain ⟨W, hW⟩ : ∃ W, W = ((w.alloc (.cells #[.slice a0 l0 c0, .slice a1 l1 c1] 32)).alloc (.cells #[.string nm, .int .i64 ag, .int .i64 sl, v3] 45)).alloc (.cells #[.int .i64 1, .int .i64 n, .string s, .int .i64 tq] 48) := ⟨_, rfl⟩
  have hA : Below w.heap.size w W := by rw [hW]; exact (((Below.refl _ _).alloc (Nat.le_refl _) _).alloc (by simp) _).alloc (by simp; omega) _
  obtain ⟨nA, nB, nC⟩ := heap_three w (.cells #[.slice a0 l0 c0, .slice a1 l1 c1] 32) (.cells #[.string nm, .int .i64 ag, .int .i64 sl, v3] 45) (.cells #[.int .i64 1, .int .i64 n, .string s, .int .i64 tq] 48)
  rw [← hW] at nA nB nC
  have HBX : Hid (_ ∧ _ ∧ _) := ⟨nA, nB, nC⟩
  have HA : Hid (Below w.heap.size w W) := hA
  have HCR : Hid (∀ V : World, Below w.heap.size w V → CodeR d V [.slice a0 l0 c0, .slice a1 l1 c1] c) := fun V hV => CodeR.lasts d _ _ _ _ hc hV
  have HWC : Hid (WfCode d c ∧ szCodeD d c ≤ 1048576) := ⟨hwc, hz⟩
  have hC := shaped_any 1 n s tq W (ht.later hA) hs (by omega) (by omega)
  rw [hW] at hC
  have HW : Hid (W = _) := hW
  clear hA nA nB nC hW hc hwc hz ht
  go_enter Tryd.func71, Tryd.ntmps71
  go_wp2_with fail
  refine hC.mono ?_
  clear hC
  rintro e V ⟨b, rfl, hb, hB⟩
  rw [← HW.out] at hB
  have HBV : Hid (Below w.heap.size w V) := HA.out.trans (hB.mono HA.out.size)
  have nA := (hB.block _ (lt_row HBX.out.1)).trans HBX.out.1
  have nB := (hB.block _ (lt_row HBX.out.2.1)).trans HBX.out.2.1
  have nC := (hB.block _ (lt_row HBX.out.2.2)).trans HBX.out.2.2
  have hVs : w.heap.size + 1 + 1 < V.heap.size := lt_row nC
  have x0 : V.cell? ⟨w.heap.size + 1 + 1, 0, none⟩ = some (.int .i64 1) := by rw [cell_of_row V _ 0 _ _ _ nC]; rfl
  have x1 : V.cell? ⟨w.heap.size + 1 + 1, 1, none⟩ = some (.int .i64 n) := by rw [cell_of_row V _ 1 _ _ _ nC]; rfl
  have x2 : V.cell? ⟨w.heap.size + 1 + 1, 2, none⟩ = some (.string s) := by rw [cell_of_row V _ 2 _ _ _ nC]; rfl
  have y2 : V.cell? ⟨w.heap.size + 1, 2, none⟩ = some (.int .i64 sl) := by rw [cell_of_row V _ 2 _ _ _ nB]; rfl
  have z0 : V.cell? ⟨w.heap.size, 0, none⟩ = some (.slice a0 l0 c0) := by rw [cell_of_row V _ 0 _ _ _ nA]; rfl
  have z1 : V.cell? ⟨w.heap.size, 1, none⟩ = some (.slice a1 l1 c1) := by rw [cell_of_row V _ 1 _ _ _ nA]; rfl
  have HN : Hid (_ ∧ _) := ⟨nA, nC⟩
  clear hB HBX HW HA nA nB nC
  cases b with
  | false =>
    have HF : Hid (¬ PP) := by rw [← HP0.out]; exact fun h => by have := hb.2 (ins_shape h); cases this
    clear hb x0 x1 x2 y2 z0 z1 HN
    go_wp2_with fail
    go_ret
    exact bres_no HF.out HBV.out
  | true =>
  have hsh := hb.1 rfl
  rw [shD1] at hsh
  have HPP : Hid ((0 ≤ n ∧ n ≤ 1000000000000) = PP) := by show _ = _; rw [← HP0.out, insP1]; exact propext ⟨fun h => ⟨hsh.1, hsh.2, h⟩, fun h => h.2.2⟩
  clear hb hsh HP0
  clear HN z0 z1
  by_cases hc0 : 0 ≤ n
  · have HP0 : Hid (0 ≤ n) := hc0
    have hd0 : 0 ≤ n := hc0
    clear hc0
    by_cases hc1 : n ≤ 1000000000000
    · have HP1 : Hid (n ≤ 1000000000000) := hc1
      have hd1 : n ≤ 1000000000000 := hc1
      clear hc1
      have HF : Hid PP := by rw [← HPP.out]; exact ⟨(HP0.out), (HP1.out)⟩
      go_wp2_with fail
      go_ret
      exact bres_yes HF.out HBV.out
    · have HF : Hid (¬ PP) := by rw [← HPP.out]; exact fun h => hc1 h.2
      have hd1 : decide (n ≤ 1000000000000) = false := decide_eq_false hc1
      clear hc1
      go_wp2_with fail
      go_ret
      exact bres_no HF.out HBV.out
  · have HF : Hid (¬ PP) := by rw [← HPP.out]; exact fun h => hc0 h.1
    have hd0 : decide (0 ≤ n) = false := decide_eq_false hc0
    clear hc0
    go_wp2_with fail
    go_ret
    exact bres_no HF.out HBV.out

set_option maxRecDepth 100000 in
set_option maxHeartbeats 4000000 in
theorem insFits_2 {d : Nat} (a0 : Option Addr) (l0 c0 : Nat) (a1 : Option Addr) (l1 c1 : Nat) (c : DCode d) (nm : ByteArray) (ag sl : Int) (v3 : Value) (n : Int) (s : ByteArray) (tq : Int) (w : World)
    (hc : CodeR d w [.slice a0 l0 c0, .slice a1 l1 c1] c) (hwc : WfCode d c) (hz : szCodeD d c ≤ 1048576) (ht : ShOk w) (hs : s.size ≤ 9223372036854775807) (hn : I64 n) (hsl0 : 0 ≤ sl) (hsl1 : sl ≤ 400) :
    Calls Tryd.prog 71 #[.agg #[.slice a0 l0 c0, .slice a1 l1 c1], .agg #[.string nm, .int .i64 ag, .int .i64 sl, v3], .agg #[.int .i64 2, .int .i64 n, .string s, .int .i64 tq]] w fun e w' => BRes (InsP c sl 2 n s tq) w e w' := by
  obtain ⟨PP, hPP⟩ : ∃ P : Prop, InsP c sl 2 n s tq = P := ⟨_, rfl⟩
  have HP0 : Hid (InsP c sl 2 n s tq = PP) := hPP
  rw [hPP]
  clear hPP
  obtain ⟨W, hW⟩ : ∃ W, W = ((w.alloc (.cells #[.slice a0 l0 c0, .slice a1 l1 c1] 32)).alloc (.cells #[.string nm, .int .i64 ag, .int .i64 sl, v3] 45)).alloc (.cells #[.int .i64 2, .int .i64 n, .string s, .int .i64 tq] 48) := ⟨_, rfl⟩
  have hA : Below w.heap.size w W := by rw [hW]; exact (((Below.refl _ _).alloc (Nat.le_refl _) _).alloc (by simp) _).alloc (by simp; omega) _
  obtain ⟨nA, nB, nC⟩ := heap_three w (.cells #[.slice a0 l0 c0, .slice a1 l1 c1] 32) (.cells #[.string nm, .int .i64 ag, .int .i64 sl, v3] 45) (.cells #[.int .i64 2, .int .i64 n, .string s, .int .i64 tq] 48)
  rw [← hW] at nA nB nC
  have HBX : Hid (_ ∧ _ ∧ _) := ⟨nA, nB, nC⟩
  have HA : Hid (Below w.heap.size w W) := hA
  have HCR : Hid (∀ V : World, Below w.heap.size w V → CodeR d V [.slice a0 l0 c0, .slice a1 l1 c1] c) := fun V hV => CodeR.lasts d _ _ _ _ hc hV
  have HWC : Hid (WfCode d c ∧ szCodeD d c ≤ 1048576) := ⟨hwc, hz⟩
  have hC := shaped_any 2 n s tq W (ht.later hA) hs (by omega) (by omega)
  rw [hW] at hC
  have HW : Hid (W = _) := hW
  clear hA nA nB nC hW hc hwc hz ht
  go_enter Tryd.func71, Tryd.ntmps71
  go_wp2_with fail
  refine hC.mono ?_
  clear hC
  rintro e V ⟨b, rfl, hb, hB⟩
  rw [← HW.out] at hB
  have HBV : Hid (Below w.heap.size w V) := HA.out.trans (hB.mono HA.out.size)
  have nA := (hB.block _ (lt_row HBX.out.1)).trans HBX.out.1
  have nB := (hB.block _ (lt_row HBX.out.2.1)).trans HBX.out.2.1
  have nC := (hB.block _ (lt_row HBX.out.2.2)).trans HBX.out.2.2
  have hVs : w.heap.size + 1 + 1 < V.heap.size := lt_row nC
  have x0 : V.cell? ⟨w.heap.size + 1 + 1, 0, none⟩ = some (.int .i64 2) := by rw [cell_of_row V _ 0 _ _ _ nC]; rfl
  have x1 : V.cell? ⟨w.heap.size + 1 + 1, 1, none⟩ = some (.int .i64 n) := by rw [cell_of_row V _ 1 _ _ _ nC]; rfl
  have x2 : V.cell? ⟨w.heap.size + 1 + 1, 2, none⟩ = some (.string s) := by rw [cell_of_row V _ 2 _ _ _ nC]; rfl
  have y2 : V.cell? ⟨w.heap.size + 1, 2, none⟩ = some (.int .i64 sl) := by rw [cell_of_row V _ 2 _ _ _ nB]; rfl
  have z0 : V.cell? ⟨w.heap.size, 0, none⟩ = some (.slice a0 l0 c0) := by rw [cell_of_row V _ 0 _ _ _ nA]; rfl
  have z1 : V.cell? ⟨w.heap.size, 1, none⟩ = some (.slice a1 l1 c1) := by rw [cell_of_row V _ 1 _ _ _ nA]; rfl
  have HN : Hid (_ ∧ _) := ⟨nA, nC⟩
  clear hB HBX HW HA nA nB nC
  cases b with
  | false =>
    have HF : Hid (¬ PP) := by rw [← HP0.out]; exact fun h => by have := hb.2 (ins_shape h); cases this
    clear hb x0 x1 x2 y2 z0 z1 HN
    go_wp2_with fail
    go_ret
    exact bres_no HF.out HBV.out
  | true =>
  have hsh := hb.1 rfl
  rw [shD2] at hsh
  have HPP : Hid ((AtomP s ∧ ¬ Wrd s) = PP) := by show _ = _; rw [← HP0.out, insP2]; exact propext ⟨fun h => ⟨hsh.1, hsh.2, h⟩, fun h => h.2.2⟩
  clear hb hsh HP0
  have hC := exprAtomOk_any s V hs
  clear z0 z1 HN
  go_wp2_with fail
  refine hC.mono ?_
  clear hC
  rintro e V2 ⟨b, rfl, hb, rfl⟩
  have HF : Hid (b = true ↔ PP) := by rw [← HPP.out]; exact hb
  clear hb x0 x1 x2 y2
  go_wp2_with fail
  go_ret
  exact bres_after HF.out HBV.out

set_option maxRecDepth 100000 in
set_option maxHeartbeats 4000000 in
theorem insFits_3 {d : Nat} (a0 : Option Addr) (l0 c0 : Nat) (a1 : Option Addr) (l1 c1 : Nat) (c : DCode d) (nm : ByteArray) (ag sl : Int) (v3 : Value) (n : Int) (s : ByteArray) (tq : Int) (w : World)
    (hc : CodeR d w [.slice a0 l0 c0, .slice a1 l1 c1] c) (hwc : WfCode d c) (hz : szCodeD d c ≤ 1048576) (ht : ShOk w) (hs : s.size ≤ 9223372036854775807) (hn : I64 n) (hsl0 : 0 ≤ sl) (hsl1 : sl ≤ 400) :
    Calls Tryd.prog 71 #[.agg #[.slice a0 l0 c0, .slice a1 l1 c1], .agg #[.string nm, .int .i64 ag, .int .i64 sl, v3], .agg #[.int .i64 3, .int .i64 n, .string s, .int .i64 tq]] w fun e w' => BRes (InsP c sl 3 n s tq) w e w' := by
  obtain ⟨PP, hPP⟩ : ∃ P : Prop, InsP c sl 3 n s tq = P := ⟨_, rfl⟩
  have HP0 : Hid (InsP c sl 3 n s tq = PP) := hPP
  rw [hPP]
  clear hPP
  obtain ⟨W, hW⟩ : ∃ W, W = ((w.alloc (.cells #[.slice a0 l0 c0, .slice a1 l1 c1] 32)).alloc (.cells #[.string nm, .int .i64 ag, .int .i64 sl, v3] 45)).alloc (.cells #[.int .i64 3, .int .i64 n, .string s, .int .i64 tq] 48) := ⟨_, rfl⟩
  have hA : Below w.heap.size w W := by rw [hW]; exact (((Below.refl _ _).alloc (Nat.le_refl _) _).alloc (by simp) _).alloc (by simp; omega) _
  obtain ⟨nA, nB, nC⟩ := heap_three w (.cells #[.slice a0 l0 c0, .slice a1 l1 c1] 32) (.cells #[.string nm, .int .i64 ag, .int .i64 sl, v3] 45) (.cells #[.int .i64 3, .int .i64 n, .string s, .int .i64 tq] 48)
  rw [← hW] at nA nB nC
  have HBX : Hid (_ ∧ _ ∧ _) := ⟨nA, nB, nC⟩
  have HA : Hid (Below w.heap.size w W) := hA
  have HCR : Hid (∀ V : World, Below w.heap.size w V → CodeR d V [.slice a0 l0 c0, .slice a1 l1 c1] c) := fun V hV => CodeR.lasts d _ _ _ _ hc hV
  have HWC : Hid (WfCode d c ∧ szCodeD d c ≤ 1048576) := ⟨hwc, hz⟩
  have hC := shaped_any 3 n s tq W (ht.later hA) hs (by omega) (by omega)
  rw [hW] at hC
  have HW : Hid (W = _) := hW
  clear hA nA nB nC hW hc hwc hz ht
  go_enter Tryd.func71, Tryd.ntmps71
  go_wp2_with fail
  refine hC.mono ?_
  clear hC
  rintro e V ⟨b, rfl, hb, hB⟩
  rw [← HW.out] at hB
  have HBV : Hid (Below w.heap.size w V) := HA.out.trans (hB.mono HA.out.size)
  have nA := (hB.block _ (lt_row HBX.out.1)).trans HBX.out.1
  have nB := (hB.block _ (lt_row HBX.out.2.1)).trans HBX.out.2.1
  have nC := (hB.block _ (lt_row HBX.out.2.2)).trans HBX.out.2.2
  have hVs : w.heap.size + 1 + 1 < V.heap.size := lt_row nC
  have x0 : V.cell? ⟨w.heap.size + 1 + 1, 0, none⟩ = some (.int .i64 3) := by rw [cell_of_row V _ 0 _ _ _ nC]; rfl
  have x1 : V.cell? ⟨w.heap.size + 1 + 1, 1, none⟩ = some (.int .i64 n) := by rw [cell_of_row V _ 1 _ _ _ nC]; rfl
  have x2 : V.cell? ⟨w.heap.size + 1 + 1, 2, none⟩ = some (.string s) := by rw [cell_of_row V _ 2 _ _ _ nC]; rfl
  have y2 : V.cell? ⟨w.heap.size + 1, 2, none⟩ = some (.int .i64 sl) := by rw [cell_of_row V _ 2 _ _ _ nB]; rfl
  have z0 : V.cell? ⟨w.heap.size, 0, none⟩ = some (.slice a0 l0 c0) := by rw [cell_of_row V _ 0 _ _ _ nA]; rfl
  have z1 : V.cell? ⟨w.heap.size, 1, none⟩ = some (.slice a1 l1 c1) := by rw [cell_of_row V _ 1 _ _ _ nA]; rfl
  have HN : Hid (_ ∧ _) := ⟨nA, nC⟩
  clear hB HBX HW HA nA nB nC
  cases b with
  | false =>
    have HF : Hid (¬ PP) := by rw [← HP0.out]; exact fun h => by have := hb.2 (ins_shape h); cases this
    clear hb x0 x1 x2 y2 z0 z1 HN
    go_wp2_with fail
    go_ret
    exact bres_no HF.out HBV.out
  | true =>
  have hsh := hb.1 rfl
  rw [shD3] at hsh
  have HPP : Hid ((0 ≤ n ∧ n < sl) = PP) := by show _ = _; rw [← HP0.out, insP3]; exact propext ⟨fun h => ⟨hsh.1, hsh.2, h⟩, fun h => h.2.2⟩
  clear hb hsh HP0
  clear HN z0 z1
  by_cases hc0 : 0 ≤ n
  · have HP0 : Hid (0 ≤ n) := hc0
    have hd0 : 0 ≤ n := hc0
    clear hc0
    by_cases hc1 : n < sl
    · have HP1 : Hid (n < sl) := hc1
      have hd1 : n < sl := hc1
      clear hc1
      have HF : Hid PP := by rw [← HPP.out]; exact ⟨(HP0.out), (HP1.out)⟩
      go_wp2_with fail
      go_ret
      exact bres_yes HF.out HBV.out
    · have HF : Hid (¬ PP) := by rw [← HPP.out]; exact fun h => hc1 h.2
      have hd1 : decide (n < sl) = false := decide_eq_false hc1
      clear hc1
      go_wp2_with fail
      go_ret
      exact bres_no HF.out HBV.out
  · have HF : Hid (¬ PP) := by rw [← HPP.out]; exact fun h => hc0 h.1
    have hd0 : decide (0 ≤ n) = false := decide_eq_false hc0
    clear hc0
    go_wp2_with fail
    go_ret
    exact bres_no HF.out HBV.out

set_option maxRecDepth 100000 in
set_option maxHeartbeats 4000000 in
theorem insFits_4 {d : Nat} (a0 : Option Addr) (l0 c0 : Nat) (a1 : Option Addr) (l1 c1 : Nat) (c : DCode d) (nm : ByteArray) (ag sl : Int) (v3 : Value) (n : Int) (s : ByteArray) (tq : Int) (w : World)
    (hc : CodeR d w [.slice a0 l0 c0, .slice a1 l1 c1] c) (hwc : WfCode d c) (hz : szCodeD d c ≤ 1048576) (ht : ShOk w) (hs : s.size ≤ 9223372036854775807) (hn : I64 n) (hsl0 : 0 ≤ sl) (hsl1 : sl ≤ 400) :
    Calls Tryd.prog 71 #[.agg #[.slice a0 l0 c0, .slice a1 l1 c1], .agg #[.string nm, .int .i64 ag, .int .i64 sl, v3], .agg #[.int .i64 4, .int .i64 n, .string s, .int .i64 tq]] w fun e w' => BRes (InsP c sl 4 n s tq) w e w' := by
  obtain ⟨PP, hPP⟩ : ∃ P : Prop, InsP c sl 4 n s tq = P := ⟨_, rfl⟩
  have HP0 : Hid (InsP c sl 4 n s tq = PP) := hPP
  rw [hPP]
  clear hPP
  obtain ⟨W, hW⟩ : ∃ W, W = ((w.alloc (.cells #[.slice a0 l0 c0, .slice a1 l1 c1] 32)).alloc (.cells #[.string nm, .int .i64 ag, .int .i64 sl, v3] 45)).alloc (.cells #[.int .i64 4, .int .i64 n, .string s, .int .i64 tq] 48) := ⟨_, rfl⟩
  have hA : Below w.heap.size w W := by rw [hW]; exact (((Below.refl _ _).alloc (Nat.le_refl _) _).alloc (by simp) _).alloc (by simp; omega) _
  obtain ⟨nA, nB, nC⟩ := heap_three w (.cells #[.slice a0 l0 c0, .slice a1 l1 c1] 32) (.cells #[.string nm, .int .i64 ag, .int .i64 sl, v3] 45) (.cells #[.int .i64 4, .int .i64 n, .string s, .int .i64 tq] 48)
  rw [← hW] at nA nB nC
  have HBX : Hid (_ ∧ _ ∧ _) := ⟨nA, nB, nC⟩
  have HA : Hid (Below w.heap.size w W) := hA
  have HCR : Hid (∀ V : World, Below w.heap.size w V → CodeR d V [.slice a0 l0 c0, .slice a1 l1 c1] c) := fun V hV => CodeR.lasts d _ _ _ _ hc hV
  have HWC : Hid (WfCode d c ∧ szCodeD d c ≤ 1048576) := ⟨hwc, hz⟩
  have hC := shaped_any 4 n s tq W (ht.later hA) hs (by omega) (by omega)
  rw [hW] at hC
  have HW : Hid (W = _) := hW
  clear hA nA nB nC hW hc hwc hz ht
  go_enter Tryd.func71, Tryd.ntmps71
  go_wp2_with fail
  refine hC.mono ?_
  clear hC
  rintro e V ⟨b, rfl, hb, hB⟩
  rw [← HW.out] at hB
  have HBV : Hid (Below w.heap.size w V) := HA.out.trans (hB.mono HA.out.size)
  have nA := (hB.block _ (lt_row HBX.out.1)).trans HBX.out.1
  have nB := (hB.block _ (lt_row HBX.out.2.1)).trans HBX.out.2.1
  have nC := (hB.block _ (lt_row HBX.out.2.2)).trans HBX.out.2.2
  have hVs : w.heap.size + 1 + 1 < V.heap.size := lt_row nC
  have x0 : V.cell? ⟨w.heap.size + 1 + 1, 0, none⟩ = some (.int .i64 4) := by rw [cell_of_row V _ 0 _ _ _ nC]; rfl
  have x1 : V.cell? ⟨w.heap.size + 1 + 1, 1, none⟩ = some (.int .i64 n) := by rw [cell_of_row V _ 1 _ _ _ nC]; rfl
  have x2 : V.cell? ⟨w.heap.size + 1 + 1, 2, none⟩ = some (.string s) := by rw [cell_of_row V _ 2 _ _ _ nC]; rfl
  have y2 : V.cell? ⟨w.heap.size + 1, 2, none⟩ = some (.int .i64 sl) := by rw [cell_of_row V _ 2 _ _ _ nB]; rfl
  have z0 : V.cell? ⟨w.heap.size, 0, none⟩ = some (.slice a0 l0 c0) := by rw [cell_of_row V _ 0 _ _ _ nA]; rfl
  have z1 : V.cell? ⟨w.heap.size, 1, none⟩ = some (.slice a1 l1 c1) := by rw [cell_of_row V _ 1 _ _ _ nA]; rfl
  have HN : Hid (_ ∧ _) := ⟨nA, nC⟩
  clear hB HBX HW HA nA nB nC
  cases b with
  | false =>
    have HF : Hid (¬ PP) := by rw [← HP0.out]; exact fun h => by have := hb.2 (ins_shape h); cases this
    clear hb x0 x1 x2 y2 z0 z1 HN
    go_wp2_with fail
    go_ret
    exact bres_no HF.out HBV.out
  | true =>
  have hsh := hb.1 rfl
  rw [shD4] at hsh
  have HPP : Hid ((0 ≤ n ∧ n ≤ 20) = PP) := by show _ = _; rw [← HP0.out, insP4]; exact propext ⟨fun h => ⟨hsh.1, hsh.2, h⟩, fun h => h.2.2⟩
  clear hb hsh HP0
  clear HN z0 z1
  by_cases hc0 : 0 ≤ n
  · have HP0 : Hid (0 ≤ n) := hc0
    have hd0 : 0 ≤ n := hc0
    clear hc0
    by_cases hc1 : n ≤ 20
    · have HP1 : Hid (n ≤ 20) := hc1
      have hd1 : n ≤ 20 := hc1
      clear hc1
      have HF : Hid PP := by rw [← HPP.out]; exact ⟨(HP0.out), (HP1.out)⟩
      go_wp2_with fail
      go_ret
      exact bres_yes HF.out HBV.out
    · have HF : Hid (¬ PP) := by rw [← HPP.out]; exact fun h => hc1 h.2
      have hd1 : decide (n ≤ 20) = false := decide_eq_false hc1
      clear hc1
      go_wp2_with fail
      go_ret
      exact bres_no HF.out HBV.out
  · have HF : Hid (¬ PP) := by rw [← HPP.out]; exact fun h => hc0 h.1
    have hd0 : decide (0 ≤ n) = false := decide_eq_false hc0
    clear hc0
    go_wp2_with fail
    go_ret
    exact bres_no HF.out HBV.out

set_option maxRecDepth 100000 in
set_option maxHeartbeats 4000000 in
theorem insFits_5 {d : Nat} (a0 : Option Addr) (l0 c0 : Nat) (a1 : Option Addr) (l1 c1 : Nat) (c : DCode d) (nm : ByteArray) (ag sl : Int) (v3 : Value) (n : Int) (s : ByteArray) (tq : Int) (w : World)
    (hc : CodeR d w [.slice a0 l0 c0, .slice a1 l1 c1] c) (hwc : WfCode d c) (hz : szCodeD d c ≤ 1048576) (ht : ShOk w) (hs : s.size ≤ 9223372036854775807) (hn : I64 n) (hsl0 : 0 ≤ sl) (hsl1 : sl ≤ 400) :
    Calls Tryd.prog 71 #[.agg #[.slice a0 l0 c0, .slice a1 l1 c1], .agg #[.string nm, .int .i64 ag, .int .i64 sl, v3], .agg #[.int .i64 5, .int .i64 n, .string s, .int .i64 tq]] w fun e w' => BRes (InsP c sl 5 n s tq) w e w' := by
  obtain ⟨PP, hPP⟩ : ∃ P : Prop, InsP c sl 5 n s tq = P := ⟨_, rfl⟩
  have HP0 : Hid (InsP c sl 5 n s tq = PP) := hPP
  rw [hPP]
  clear hPP
  obtain ⟨W, hW⟩ : ∃ W, W = ((w.alloc (.cells #[.slice a0 l0 c0, .slice a1 l1 c1] 32)).alloc (.cells #[.string nm, .int .i64 ag, .int .i64 sl, v3] 45)).alloc (.cells #[.int .i64 5, .int .i64 n, .string s, .int .i64 tq] 48) := ⟨_, rfl⟩
  have hA : Below w.heap.size w W := by rw [hW]; exact (((Below.refl _ _).alloc (Nat.le_refl _) _).alloc (by simp) _).alloc (by simp; omega) _
  obtain ⟨nA, nB, nC⟩ := heap_three w (.cells #[.slice a0 l0 c0, .slice a1 l1 c1] 32) (.cells #[.string nm, .int .i64 ag, .int .i64 sl, v3] 45) (.cells #[.int .i64 5, .int .i64 n, .string s, .int .i64 tq] 48)
  rw [← hW] at nA nB nC
  have HBX : Hid (_ ∧ _ ∧ _) := ⟨nA, nB, nC⟩
  have HA : Hid (Below w.heap.size w W) := hA
  have HCR : Hid (∀ V : World, Below w.heap.size w V → CodeR d V [.slice a0 l0 c0, .slice a1 l1 c1] c) := fun V hV => CodeR.lasts d _ _ _ _ hc hV
  have HWC : Hid (WfCode d c ∧ szCodeD d c ≤ 1048576) := ⟨hwc, hz⟩
  have hC := shaped_any 5 n s tq W (ht.later hA) hs (by omega) (by omega)
  rw [hW] at hC
  have HW : Hid (W = _) := hW
  clear hA nA nB nC hW hc hwc hz ht
  go_enter Tryd.func71, Tryd.ntmps71
  go_wp2_with fail
  refine hC.mono ?_
  clear hC
  rintro e V ⟨b, rfl, hb, hB⟩
  rw [← HW.out] at hB
  have HBV : Hid (Below w.heap.size w V) := HA.out.trans (hB.mono HA.out.size)
  have nA := (hB.block _ (lt_row HBX.out.1)).trans HBX.out.1
  have nB := (hB.block _ (lt_row HBX.out.2.1)).trans HBX.out.2.1
  have nC := (hB.block _ (lt_row HBX.out.2.2)).trans HBX.out.2.2
  have hVs : w.heap.size + 1 + 1 < V.heap.size := lt_row nC
  have x0 : V.cell? ⟨w.heap.size + 1 + 1, 0, none⟩ = some (.int .i64 5) := by rw [cell_of_row V _ 0 _ _ _ nC]; rfl
  have x1 : V.cell? ⟨w.heap.size + 1 + 1, 1, none⟩ = some (.int .i64 n) := by rw [cell_of_row V _ 1 _ _ _ nC]; rfl
  have x2 : V.cell? ⟨w.heap.size + 1 + 1, 2, none⟩ = some (.string s) := by rw [cell_of_row V _ 2 _ _ _ nC]; rfl
  have y2 : V.cell? ⟨w.heap.size + 1, 2, none⟩ = some (.int .i64 sl) := by rw [cell_of_row V _ 2 _ _ _ nB]; rfl
  have z0 : V.cell? ⟨w.heap.size, 0, none⟩ = some (.slice a0 l0 c0) := by rw [cell_of_row V _ 0 _ _ _ nA]; rfl
  have z1 : V.cell? ⟨w.heap.size, 1, none⟩ = some (.slice a1 l1 c1) := by rw [cell_of_row V _ 1 _ _ _ nA]; rfl
  have HN : Hid (_ ∧ _) := ⟨nA, nC⟩
  clear hB HBX HW HA nA nB nC
  cases b with
  | false =>
    have HF : Hid (¬ PP) := by rw [← HP0.out]; exact fun h => by have := hb.2 (ins_shape h); cases this
    clear hb x0 x1 x2 y2 z0 z1 HN
    go_wp2_with fail
    go_ret
    exact bres_no HF.out HBV.out
  | true =>
  have hsh := hb.1 rfl
  rw [shD5] at hsh
  have HPP : Hid ((0 ≤ n ∧ n ≤ 20) = PP) := by show _ = _; rw [← HP0.out, insP5]; exact propext ⟨fun h => ⟨hsh.1, hsh.2, h⟩, fun h => h.2.2⟩
  clear hb hsh HP0
  clear HN z0 z1
  by_cases hc0 : 0 ≤ n
  · have HP0 : Hid (0 ≤ n) := hc0
    have hd0 : 0 ≤ n := hc0
    clear hc0
    by_cases hc1 : n ≤ 20
    · have HP1 : Hid (n ≤ 20) := hc1
      have hd1 : n ≤ 20 := hc1
      clear hc1
      have HF : Hid PP := by rw [← HPP.out]; exact ⟨(HP0.out), (HP1.out)⟩
      go_wp2_with fail
      go_ret
      exact bres_yes HF.out HBV.out
    · have HF : Hid (¬ PP) := by rw [← HPP.out]; exact fun h => hc1 h.2
      have hd1 : decide (n ≤ 20) = false := decide_eq_false hc1
      clear hc1
      go_wp2_with fail
      go_ret
      exact bres_no HF.out HBV.out
  · have HF : Hid (¬ PP) := by rw [← HPP.out]; exact fun h => hc0 h.1
    have hd0 : decide (0 ≤ n) = false := decide_eq_false hc0
    clear hc0
    go_wp2_with fail
    go_ret
    exact bres_no HF.out HBV.out

set_option maxRecDepth 100000 in
set_option maxHeartbeats 4000000 in
theorem insFits_6 {d : Nat} (a0 : Option Addr) (l0 c0 : Nat) (a1 : Option Addr) (l1 c1 : Nat) (c : DCode d) (nm : ByteArray) (ag sl : Int) (v3 : Value) (n : Int) (s : ByteArray) (tq : Int) (w : World)
    (hc : CodeR d w [.slice a0 l0 c0, .slice a1 l1 c1] c) (hwc : WfCode d c) (hz : szCodeD d c ≤ 1048576) (ht : ShOk w) (hs : s.size ≤ 9223372036854775807) (hn : I64 n) (hsl0 : 0 ≤ sl) (hsl1 : sl ≤ 400) :
    Calls Tryd.prog 71 #[.agg #[.slice a0 l0 c0, .slice a1 l1 c1], .agg #[.string nm, .int .i64 ag, .int .i64 sl, v3], .agg #[.int .i64 6, .int .i64 n, .string s, .int .i64 tq]] w fun e w' => BRes (InsP c sl 6 n s tq) w e w' := by
  obtain ⟨PP, hPP⟩ : ∃ P : Prop, InsP c sl 6 n s tq = P := ⟨_, rfl⟩
  have HP0 : Hid (InsP c sl 6 n s tq = PP) := hPP
  rw [hPP]
  clear hPP
  obtain ⟨W, hW⟩ : ∃ W, W = ((w.alloc (.cells #[.slice a0 l0 c0, .slice a1 l1 c1] 32)).alloc (.cells #[.string nm, .int .i64 ag, .int .i64 sl, v3] 45)).alloc (.cells #[.int .i64 6, .int .i64 n, .string s, .int .i64 tq] 48) := ⟨_, rfl⟩
  have hA : Below w.heap.size w W := by rw [hW]; exact (((Below.refl _ _).alloc (Nat.le_refl _) _).alloc (by simp) _).alloc (by simp; omega) _
  obtain ⟨nA, nB, nC⟩ := heap_three w (.cells #[.slice a0 l0 c0, .slice a1 l1 c1] 32) (.cells #[.string nm, .int .i64 ag, .int .i64 sl, v3] 45) (.cells #[.int .i64 6, .int .i64 n, .string s, .int .i64 tq] 48)
  rw [← hW] at nA nB nC
  have HBX : Hid (_ ∧ _ ∧ _) := ⟨nA, nB, nC⟩
  have HA : Hid (Below w.heap.size w W) := hA
  have HCR : Hid (∀ V : World, Below w.heap.size w V → CodeR d V [.slice a0 l0 c0, .slice a1 l1 c1] c) := fun V hV => CodeR.lasts d _ _ _ _ hc hV
  have HWC : Hid (WfCode d c ∧ szCodeD d c ≤ 1048576) := ⟨hwc, hz⟩
  have hC := shaped_any 6 n s tq W (ht.later hA) hs (by omega) (by omega)
  rw [hW] at hC
  have HW : Hid (W = _) := hW
  clear hA nA nB nC hW hc hwc hz ht
  go_enter Tryd.func71, Tryd.ntmps71
  go_wp2_with fail
  refine hC.mono ?_
  clear hC
  rintro e V ⟨b, rfl, hb, hB⟩
  rw [← HW.out] at hB
  have HBV : Hid (Below w.heap.size w V) := HA.out.trans (hB.mono HA.out.size)
  have nA := (hB.block _ (lt_row HBX.out.1)).trans HBX.out.1
  have nB := (hB.block _ (lt_row HBX.out.2.1)).trans HBX.out.2.1
  have nC := (hB.block _ (lt_row HBX.out.2.2)).trans HBX.out.2.2
  have hVs : w.heap.size + 1 + 1 < V.heap.size := lt_row nC
  have x0 : V.cell? ⟨w.heap.size + 1 + 1, 0, none⟩ = some (.int .i64 6) := by rw [cell_of_row V _ 0 _ _ _ nC]; rfl
  have x1 : V.cell? ⟨w.heap.size + 1 + 1, 1, none⟩ = some (.int .i64 n) := by rw [cell_of_row V _ 1 _ _ _ nC]; rfl
  have x2 : V.cell? ⟨w.heap.size + 1 + 1, 2, none⟩ = some (.string s) := by rw [cell_of_row V _ 2 _ _ _ nC]; rfl
  have y2 : V.cell? ⟨w.heap.size + 1, 2, none⟩ = some (.int .i64 sl) := by rw [cell_of_row V _ 2 _ _ _ nB]; rfl
  have z0 : V.cell? ⟨w.heap.size, 0, none⟩ = some (.slice a0 l0 c0) := by rw [cell_of_row V _ 0 _ _ _ nA]; rfl
  have z1 : V.cell? ⟨w.heap.size, 1, none⟩ = some (.slice a1 l1 c1) := by rw [cell_of_row V _ 1 _ _ _ nA]; rfl
  have HN : Hid (_ ∧ _) := ⟨nA, nC⟩
  clear hB HBX HW HA nA nB nC
  cases b with
  | false =>
    have HF : Hid (¬ PP) := by rw [← HP0.out]; exact fun h => by have := hb.2 (ins_shape h); cases this
    clear hb x0 x1 x2 y2 z0 z1 HN
    go_wp2_with fail
    go_ret
    exact bres_no HF.out HBV.out
  | true =>
  have hsh := hb.1 rfl
  rw [shD6] at hsh
  have HPP : Hid ((2 ≤ n ∧ n ≤ 6) = PP) := by show _ = _; rw [← HP0.out, insP6]; exact propext ⟨fun h => ⟨hsh.1, hsh.2, h⟩, fun h => h.2.2⟩
  clear hb hsh HP0
  clear HN z0 z1
  by_cases hc0 : 2 ≤ n
  · have HP0 : Hid (2 ≤ n) := hc0
    have hd0 : 2 ≤ n := hc0
    clear hc0
    by_cases hc1 : n ≤ 6
    · have HP1 : Hid (n ≤ 6) := hc1
      have hd1 : n ≤ 6 := hc1
      clear hc1
      have HF : Hid PP := by rw [← HPP.out]; exact ⟨(HP0.out), (HP1.out)⟩
      go_wp2_with fail
      go_ret
      exact bres_yes HF.out HBV.out
    · have HF : Hid (¬ PP) := by rw [← HPP.out]; exact fun h => hc1 h.2
      have hd1 : decide (n ≤ 6) = false := decide_eq_false hc1
      clear hc1
      go_wp2_with fail
      go_ret
      exact bres_no HF.out HBV.out
  · have HF : Hid (¬ PP) := by rw [← HPP.out]; exact fun h => hc0 h.1
    have hd0 : decide (2 ≤ n) = false := decide_eq_false hc0
    clear hc0
    go_wp2_with fail
    go_ret
    exact bres_no HF.out HBV.out

set_option maxRecDepth 100000 in
set_option maxHeartbeats 4000000 in
theorem insFits_7 {d : Nat} (a0 : Option Addr) (l0 c0 : Nat) (a1 : Option Addr) (l1 c1 : Nat) (c : DCode d) (nm : ByteArray) (ag sl : Int) (v3 : Value) (n : Int) (s : ByteArray) (tq : Int) (w : World)
    (hc : CodeR d w [.slice a0 l0 c0, .slice a1 l1 c1] c) (hwc : WfCode d c) (hz : szCodeD d c ≤ 1048576) (ht : ShOk w) (hs : s.size ≤ 9223372036854775807) (hn : I64 n) (hsl0 : 0 ≤ sl) (hsl1 : sl ≤ 400) :
    Calls Tryd.prog 71 #[.agg #[.slice a0 l0 c0, .slice a1 l1 c1], .agg #[.string nm, .int .i64 ag, .int .i64 sl, v3], .agg #[.int .i64 7, .int .i64 n, .string s, .int .i64 tq]] w fun e w' => BRes (InsP c sl 7 n s tq) w e w' := by
  obtain ⟨PP, hPP⟩ : ∃ P : Prop, InsP c sl 7 n s tq = P := ⟨_, rfl⟩
  have HP0 : Hid (InsP c sl 7 n s tq = PP) := hPP
  rw [hPP]
  clear hPP
  obtain ⟨W, hW⟩ : ∃ W, W = ((w.alloc (.cells #[.slice a0 l0 c0, .slice a1 l1 c1] 32)).alloc (.cells #[.string nm, .int .i64 ag, .int .i64 sl, v3] 45)).alloc (.cells #[.int .i64 7, .int .i64 n, .string s, .int .i64 tq] 48) := ⟨_, rfl⟩
  have hA : Below w.heap.size w W := by rw [hW]; exact (((Below.refl _ _).alloc (Nat.le_refl _) _).alloc (by simp) _).alloc (by simp; omega) _
  obtain ⟨nA, nB, nC⟩ := heap_three w (.cells #[.slice a0 l0 c0, .slice a1 l1 c1] 32) (.cells #[.string nm, .int .i64 ag, .int .i64 sl, v3] 45) (.cells #[.int .i64 7, .int .i64 n, .string s, .int .i64 tq] 48)
  rw [← hW] at nA nB nC
  have HBX : Hid (_ ∧ _ ∧ _) := ⟨nA, nB, nC⟩
  have HA : Hid (Below w.heap.size w W) := hA
  have HCR : Hid (∀ V : World, Below w.heap.size w V → CodeR d V [.slice a0 l0 c0, .slice a1 l1 c1] c) := fun V hV => CodeR.lasts d _ _ _ _ hc hV
  have HWC : Hid (WfCode d c ∧ szCodeD d c ≤ 1048576) := ⟨hwc, hz⟩
  have hC := shaped_any 7 n s tq W (ht.later hA) hs (by omega) (by omega)
  rw [hW] at hC
  have HW : Hid (W = _) := hW
  clear hA nA nB nC hW hc hwc hz ht
  go_enter Tryd.func71, Tryd.ntmps71
  go_wp2_with fail
  refine hC.mono ?_
  clear hC
  rintro e V ⟨b, rfl, hb, hB⟩
  rw [← HW.out] at hB
  have HBV : Hid (Below w.heap.size w V) := HA.out.trans (hB.mono HA.out.size)
  have nA := (hB.block _ (lt_row HBX.out.1)).trans HBX.out.1
  have nB := (hB.block _ (lt_row HBX.out.2.1)).trans HBX.out.2.1
  have nC := (hB.block _ (lt_row HBX.out.2.2)).trans HBX.out.2.2
  have hVs : w.heap.size + 1 + 1 < V.heap.size := lt_row nC
  have x0 : V.cell? ⟨w.heap.size + 1 + 1, 0, none⟩ = some (.int .i64 7) := by rw [cell_of_row V _ 0 _ _ _ nC]; rfl
  have x1 : V.cell? ⟨w.heap.size + 1 + 1, 1, none⟩ = some (.int .i64 n) := by rw [cell_of_row V _ 1 _ _ _ nC]; rfl
  have x2 : V.cell? ⟨w.heap.size + 1 + 1, 2, none⟩ = some (.string s) := by rw [cell_of_row V _ 2 _ _ _ nC]; rfl
  have y2 : V.cell? ⟨w.heap.size + 1, 2, none⟩ = some (.int .i64 sl) := by rw [cell_of_row V _ 2 _ _ _ nB]; rfl
  have z0 : V.cell? ⟨w.heap.size, 0, none⟩ = some (.slice a0 l0 c0) := by rw [cell_of_row V _ 0 _ _ _ nA]; rfl
  have z1 : V.cell? ⟨w.heap.size, 1, none⟩ = some (.slice a1 l1 c1) := by rw [cell_of_row V _ 1 _ _ _ nA]; rfl
  have HN : Hid (_ ∧ _) := ⟨nA, nC⟩
  clear hB HBX HW HA nA nB nC
  cases b with
  | false =>
    have HF : Hid (¬ PP) := by rw [← HP0.out]; exact fun h => by have := hb.2 (ins_shape h); cases this
    clear hb x0 x1 x2 y2 z0 z1 HN
    go_wp2_with fail
    go_ret
    exact bres_no HF.out HBV.out
  | true =>
  have hsh := hb.1 rfl
  rw [shD7] at hsh
  have HPP : Hid ((OpP s) = PP) := by show _ = _; rw [← HP0.out, insP7]; exact propext ⟨fun h => ⟨hsh.1, hsh.2, h⟩, fun h => h.2.2⟩
  clear hb hsh HP0
  have hC := opOk_any s V
  clear z0 z1 HN
  go_wp2_with fail
  refine hC.mono ?_
  clear hC
  rintro e V2 ⟨b, rfl, hb, rfl⟩
  have HF : Hid (b = true ↔ PP) := by rw [← HPP.out]; exact hb
  clear hb x0 x1 x2 y2
  go_wp2_with fail
  go_ret
  exact bres_after HF.out HBV.out

set_option maxRecDepth 100000 in
set_option maxHeartbeats 4000000 in
theorem insFits_8 {d : Nat} (a0 : Option Addr) (l0 c0 : Nat) (a1 : Option Addr) (l1 c1 : Nat) (c : DCode d) (nm : ByteArray) (ag sl : Int) (v3 : Value) (n : Int) (s : ByteArray) (tq : Int) (w : World)
    (hc : CodeR d w [.slice a0 l0 c0, .slice a1 l1 c1] c) (hwc : WfCode d c) (hz : szCodeD d c ≤ 1048576) (ht : ShOk w) (hs : s.size ≤ 9223372036854775807) (hn : I64 n) (hsl0 : 0 ≤ sl) (hsl1 : sl ≤ 400) :
    Calls Tryd.prog 71 #[.agg #[.slice a0 l0 c0, .slice a1 l1 c1], .agg #[.string nm, .int .i64 ag, .int .i64 sl, v3], .agg #[.int .i64 8, .int .i64 n, .string s, .int .i64 tq]] w fun e w' => BRes (InsP c sl 8 n s tq) w e w' := by
  obtain ⟨PP, hPP⟩ : ∃ P : Prop, InsP c sl 8 n s tq = P := ⟨_, rfl⟩
  have HP0 : Hid (InsP c sl 8 n s tq = PP) := hPP
  rw [hPP]
  clear hPP
  obtain ⟨W, hW⟩ : ∃ W, W = ((w.alloc (.cells #[.slice a0 l0 c0, .slice a1 l1 c1] 32)).alloc (.cells #[.string nm, .int .i64 ag, .int .i64 sl, v3] 45)).alloc (.cells #[.int .i64 8, .int .i64 n, .string s, .int .i64 tq] 48) := ⟨_, rfl⟩
  have hA : Below w.heap.size w W := by rw [hW]; exact (((Below.refl _ _).alloc (Nat.le_refl _) _).alloc (by simp) _).alloc (by simp; omega) _
  obtain ⟨nA, nB, nC⟩ := heap_three w (.cells #[.slice a0 l0 c0, .slice a1 l1 c1] 32) (.cells #[.string nm, .int .i64 ag, .int .i64 sl, v3] 45) (.cells #[.int .i64 8, .int .i64 n, .string s, .int .i64 tq] 48)
  rw [← hW] at nA nB nC
  have HBX : Hid (_ ∧ _ ∧ _) := ⟨nA, nB, nC⟩
  have HA : Hid (Below w.heap.size w W) := hA
  have HCR : Hid (∀ V : World, Below w.heap.size w V → CodeR d V [.slice a0 l0 c0, .slice a1 l1 c1] c) := fun V hV => CodeR.lasts d _ _ _ _ hc hV
  have HWC : Hid (WfCode d c ∧ szCodeD d c ≤ 1048576) := ⟨hwc, hz⟩
  have hC := shaped_any 8 n s tq W (ht.later hA) hs (by omega) (by omega)
  rw [hW] at hC
  have HW : Hid (W = _) := hW
  clear hA nA nB nC hW hc hwc hz ht
  go_enter Tryd.func71, Tryd.ntmps71
  go_wp2_with fail
  refine hC.mono ?_
  clear hC
  rintro e V ⟨b, rfl, hb, hB⟩
  rw [← HW.out] at hB
  have HBV : Hid (Below w.heap.size w V) := HA.out.trans (hB.mono HA.out.size)
  have nA := (hB.block _ (lt_row HBX.out.1)).trans HBX.out.1
  have nB := (hB.block _ (lt_row HBX.out.2.1)).trans HBX.out.2.1
  have nC := (hB.block _ (lt_row HBX.out.2.2)).trans HBX.out.2.2
  have hVs : w.heap.size + 1 + 1 < V.heap.size := lt_row nC
  have x0 : V.cell? ⟨w.heap.size + 1 + 1, 0, none⟩ = some (.int .i64 8) := by rw [cell_of_row V _ 0 _ _ _ nC]; rfl
  have x1 : V.cell? ⟨w.heap.size + 1 + 1, 1, none⟩ = some (.int .i64 n) := by rw [cell_of_row V _ 1 _ _ _ nC]; rfl
  have x2 : V.cell? ⟨w.heap.size + 1 + 1, 2, none⟩ = some (.string s) := by rw [cell_of_row V _ 2 _ _ _ nC]; rfl
  have y2 : V.cell? ⟨w.heap.size + 1, 2, none⟩ = some (.int .i64 sl) := by rw [cell_of_row V _ 2 _ _ _ nB]; rfl
  have z0 : V.cell? ⟨w.heap.size, 0, none⟩ = some (.slice a0 l0 c0) := by rw [cell_of_row V _ 0 _ _ _ nA]; rfl
  have z1 : V.cell? ⟨w.heap.size, 1, none⟩ = some (.slice a1 l1 c1) := by rw [cell_of_row V _ 1 _ _ _ nA]; rfl
  have HN : Hid (_ ∧ _) := ⟨nA, nC⟩
  clear hB HBX HW HA nA nB nC
  cases b with
  | false =>
    have HF : Hid (¬ PP) := by rw [← HP0.out]; exact fun h => by have := hb.2 (ins_shape h); cases this
    clear hb x0 x1 x2 y2 z0 z1 HN
    go_wp2_with fail
    go_ret
    exact bres_no HF.out HBV.out
  | true =>
  have hsh := hb.1 rfl
  rw [shD8] at hsh
  have HPP : Hid ((CallP c s n) = PP) := by show _ = _; rw [← HP0.out, insP8]; exact propext ⟨fun h => ⟨hsh, h⟩, fun h => h.2⟩
  clear hb hsh HP0
  obtain ⟨w0, w1, e0, hF, hP⟩ := HCR.out V HBV.out
  simp only [List.cons.injEq, and_true] at e0
  obtain ⟨rfl, rfl⟩ := e0
  obtain ⟨aa, cc, ee⟩ := hF.slice
  simp only [Value.slice.injEq] at ee
  obtain ⟨-, el, -⟩ := ee
  have HLN : Hid (c.Fns.length = l0 ∧ l0 ≤ 1048576) := ⟨el.symm, by have := szRow_len szFnD c.Fns; have := HWC.out.2; unfold szCodeD at this; omega⟩
  have hC := fnAt_any (.slice a0 l0 c0) (.slice a1 l1 c1) c.Fns s V hF (by have := HLN.out; omega)
  have HFR : Hid (∀ X : World, Below V.heap.size V X → RowOf 4 FnR X (.slice a0 l0 c0) c.Fns) := fun X hX => hF.later FnR.lasts hX
  clear hF hP el
  go_wp2_with fail
  refine hC.mono ?_
  clear hC
  rintro e V2 ⟨rfl, hB2⟩
  have HB2 : Hid (Below w.heap.size w V2) := HBV.out.trans (hB2.mono HBV.out.size)
  have x1' : V2.cell? ⟨w.heap.size + 1 + 1, 1, none⟩ = some (.int .i64 n) := cell_later hB2 x1
  have z0' : V2.cell? ⟨w.heap.size, 0, none⟩ = some (.slice a0 l0 c0) := cell_later hB2 z0
  have HFR2 : Hid (RowOf 4 FnR V2 (.slice a0 l0 c0) c.Fns) := HFR.out V2 hB2
  clear hB2 x0 x1 x2 y2 z0 z1 HFR HN HCR hVs
  go_wp2_with fail
  have hn0 := After.some V2
  have p0 := After.cell x1'
  have p1 := After.cell z0'
  rcases fidx_cases (fun f : DFn => decide (f.Name = s)) c.Fns with ⟨q1, q2⟩ | ⟨k, x, q1, q2, q3, q4⟩
  · have e1 : fnIx c.Fns s = -1 := q1
    rw [e1]
    have HF : Hid (¬ PP) := by
      rw [← HPP.out]
      rintro ⟨k, f, r1, _⟩
      rw [e1] at r1
      omega
    clear q1 q2 e1
    refine wp_region_after (by kernel_rfl) (by kernel_rfl) ?_
    repeat (go_big_quiet_step (fail))
    refine wpQuiet_nil ?_
    rintro _ ⟨nq, rfl⟩
    have HB3 : Hid (Below w.heap.size w nq.now) := HB2.out.trans (nq.bel.mono HB2.out.size)
    go_wp2_with fail
    go_ret
    exact bres_no HF.out HB3.out
  · have e1 : fnIx c.Fns s = k := q1
    rw [e1]
    obtain ⟨b, o, a3, c3, rfl, f0, f1, f2, f3, _⟩ := Fn_at HFR2.out k x q2
    have hkl : k < l0 := by have := (List.getElem?_eq_some_iff.1 q2).1; have := HLN.out; omega
    have hkl' : (k : Int) < (l0 : Int) := by omega
    have hk0 : (0 : Int) ≤ (k : Int) := by omega
    have hl0 : l0 ≤ 1048576 := HLN.out.2
    have p2 := After.cell f1
    by_cases hx : x.Args = n
    · have hx' : (x.Args == n) = true := by simp [hx]
      have HF : Hid PP := by rw [← HPP.out]; exact ⟨k, x, e1, q2, hx⟩
      clear q1 q2 q3 q4 e1 hx f0 f1 f2 f3
      refine wp_region_after (by kernel_rfl) (by kernel_rfl) ?_
      repeat (go_big_quiet_step (fail))
      refine wpQuiet_nil ?_
      rintro _ ⟨nq, rfl⟩
      have HB3 : Hid (Below w.heap.size w nq.now) := HB2.out.trans (nq.bel.mono HB2.out.size)
      go_wp2_with fail
      go_ret
      exact bres_yes HF.out HB3.out
    · have hx' : (x.Args == n) = false := by simp [hx]
      have HF : Hid (¬ PP) := by
        rw [← HPP.out]
        rintro ⟨k', f, r1, r2, r3⟩
        rw [e1] at r1
        obtain rfl : k = k' := by omega
        rw [q2] at r2
        cases r2
        exact hx r3
      clear q1 q2 q3 q4 e1 hx f0 f1 f2 f3
      refine wp_region_after (by kernel_rfl) (by kernel_rfl) ?_
      repeat (go_big_quiet_step (fail))
      refine wpQuiet_nil ?_
      rintro _ ⟨nq, rfl⟩
      have HB3 : Hid (Below w.heap.size w nq.now) := HB2.out.trans (nq.bel.mono HB2.out.size)
      go_wp2_with fail
      go_ret
      exact bres_no HF.out HB3.out

set_option maxRecDepth 100000 in
set_option maxHeartbeats 4000000 in
theorem insFits_9 {d : Nat} (a0 : Option Addr) (l0 c0 : Nat) (a1 : Option Addr) (l1 c1 : Nat) (c : DCode d) (nm : ByteArray) (ag sl : Int) (v3 : Value) (n : Int) (s : ByteArray) (tq : Int) (w : World)
    (hc : CodeR d w [.slice a0 l0 c0, .slice a1 l1 c1] c) (hwc : WfCode d c) (hz : szCodeD d c ≤ 1048576) (ht : ShOk w) (hs : s.size ≤ 9223372036854775807) (hn : I64 n) (hsl0 : 0 ≤ sl) (hsl1 : sl ≤ 400) :
    Calls Tryd.prog 71 #[.agg #[.slice a0 l0 c0, .slice a1 l1 c1], .agg #[.string nm, .int .i64 ag, .int .i64 sl, v3], .agg #[.int .i64 9, .int .i64 n, .string s, .int .i64 tq]] w fun e w' => BRes (InsP c sl 9 n s tq) w e w' := by
  obtain ⟨PP, hPP⟩ : ∃ P : Prop, InsP c sl 9 n s tq = P := ⟨_, rfl⟩
  have HP0 : Hid (InsP c sl 9 n s tq = PP) := hPP
  rw [hPP]
  clear hPP
  obtain ⟨W, hW⟩ : ∃ W, W = ((w.alloc (.cells #[.slice a0 l0 c0, .slice a1 l1 c1] 32)).alloc (.cells #[.string nm, .int .i64 ag, .int .i64 sl, v3] 45)).alloc (.cells #[.int .i64 9, .int .i64 n, .string s, .int .i64 tq] 48) := ⟨_, rfl⟩
  have hA : Below w.heap.size w W := by rw [hW]; exact (((Below.refl _ _).alloc (Nat.le_refl _) _).alloc (by simp) _).alloc (by simp; omega) _
  obtain ⟨nA, nB, nC⟩ := heap_three w (.cells #[.slice a0 l0 c0, .slice a1 l1 c1] 32) (.cells #[.string nm, .int .i64 ag, .int .i64 sl, v3] 45) (.cells #[.int .i64 9, .int .i64 n, .string s, .int .i64 tq] 48)
  rw [← hW] at nA nB nC
  have HBX : Hid (_ ∧ _ ∧ _) := ⟨nA, nB, nC⟩
  have HA : Hid (Below w.heap.size w W) := hA
  have HCR : Hid (∀ V : World, Below w.heap.size w V → CodeR d V [.slice a0 l0 c0, .slice a1 l1 c1] c) := fun V hV => CodeR.lasts d _ _ _ _ hc hV
  have HWC : Hid (WfCode d c ∧ szCodeD d c ≤ 1048576) := ⟨hwc, hz⟩
  have hC := shaped_any 9 n s tq W (ht.later hA) hs (by omega) (by omega)
  rw [hW] at hC
  have HW : Hid (W = _) := hW
  clear hA nA nB nC hW hc hwc hz ht
  go_enter Tryd.func71, Tryd.ntmps71
  go_wp2_with fail
  refine hC.mono ?_
  clear hC
  rintro e V ⟨b, rfl, hb, hB⟩
  rw [← HW.out] at hB
  have HBV : Hid (Below w.heap.size w V) := HA.out.trans (hB.mono HA.out.size)
  have nA := (hB.block _ (lt_row HBX.out.1)).trans HBX.out.1
  have nB := (hB.block _ (lt_row HBX.out.2.1)).trans HBX.out.2.1
  have nC := (hB.block _ (lt_row HBX.out.2.2)).trans HBX.out.2.2
  have hVs : w.heap.size + 1 + 1 < V.heap.size := lt_row nC
  have x0 : V.cell? ⟨w.heap.size + 1 + 1, 0, none⟩ = some (.int .i64 9) := by rw [cell_of_row V _ 0 _ _ _ nC]; rfl
  have x1 : V.cell? ⟨w.heap.size + 1 + 1, 1, none⟩ = some (.int .i64 n) := by rw [cell_of_row V _ 1 _ _ _ nC]; rfl
  have x2 : V.cell? ⟨w.heap.size + 1 + 1, 2, none⟩ = some (.string s) := by rw [cell_of_row V _ 2 _ _ _ nC]; rfl
  have y2 : V.cell? ⟨w.heap.size + 1, 2, none⟩ = some (.int .i64 sl) := by rw [cell_of_row V _ 2 _ _ _ nB]; rfl
  have z0 : V.cell? ⟨w.heap.size, 0, none⟩ = some (.slice a0 l0 c0) := by rw [cell_of_row V _ 0 _ _ _ nA]; rfl
  have z1 : V.cell? ⟨w.heap.size, 1, none⟩ = some (.slice a1 l1 c1) := by rw [cell_of_row V _ 1 _ _ _ nA]; rfl
  have HN : Hid (_ ∧ _) := ⟨nA, nC⟩
  clear hB HBX HW HA nA nB nC
  cases b with
  | false =>
    have HF : Hid (¬ PP) := by rw [← HP0.out]; exact fun h => by have := hb.2 (ins_shape h); cases this
    clear hb x0 x1 x2 y2 z0 z1 HN
    go_wp2_with fail
    go_ret
    exact bres_no HF.out HBV.out
  | true =>
  have hsh := hb.1 rfl
  rw [shD9] at hsh
  have HPP : Hid ((MatP c sl n) = PP) := by show _ = _; rw [← HP0.out, insP9]; exact propext ⟨fun h => ⟨hsh, h⟩, fun h => h.2⟩
  clear hb hsh HP0
  obtain ⟨w0, w1, e0, hF, hP⟩ := HCR.out V HBV.out
  simp only [List.cons.injEq, and_true] at e0
  obtain ⟨rfl, rfl⟩ := e0
  obtain ⟨aa, cc, ee, hel⟩ := hP
  simp only [Value.slice.injEq] at ee
  obtain ⟨rfl, el, rfl⟩ := ee
  have HLN : Hid (c.Pats.length = l1 ∧ l1 ≤ 1048576) := ⟨el.symm, by have := szRow_len (szPatD d) c.Pats; have := HWC.out.2; unfold szCodeD at this; omega⟩
  have hl1 : l1 ≤ 1048576 := HLN.out.2
  have HEL : Hid (∀ (i : Nat) (t : Tm d), c.Pats[i]? = some t → ∃ b o vs, a1 = some ⟨b, o, none⟩ ∧ vs.length = 4 ∧ (∀ (j : Nat) (u : Value), vs[j]? = some u → V.cell? ⟨b, o + i * 4 + j, none⟩ = some u) ∧ PatR d V vs t) := hel
  clear hF hel el x2 z0 HN HCR
  go_wp2_with fail
  have hn0 := After.some V
  have p0 := After.cell x1
  have p1 := After.cell z1
  have p2 := After.cell y2
  by_cases h1 : 0 ≤ n
  case neg =>
    have h1' : decide (0 ≤ n) = false := by simp; omega
    have HF : Hid (¬ PP) := by
      rw [← HPP.out]
      rintro ⟨k, p, r1, _⟩
      omega
    clear h1
    refine wp_region_after (by kernel_rfl) (by kernel_rfl) ?_
    repeat (go_big_quiet_step (fail))
    refine wpQuiet_nil ?_
    rintro _ ⟨nq, rfl⟩
    have HB3 : Hid (Below w.heap.size w nq.now) := HBV.out.trans (nq.bel.mono HBV.out.size)
    go_wp2_with fail
    go_ret
    exact bres_no HF.out HB3.out
  obtain ⟨k, rfl⟩ : ∃ k : Nat, n = k := ⟨n.toNat, by omega⟩
  by_cases h2 : k < l1
  case neg =>
    have h2' : decide ((k : Int) < (l1 : Int)) = false := by simp; omega
    have h2'' : ¬ (k : Int) < (l1 : Int) := by omega
    have HF : Hid (¬ PP) := by
      rw [← HPP.out]
      rintro ⟨k', p, r1, r2, _⟩
      have := (List.getElem?_eq_some_iff.1 r2).1
      have := HLN.out.1
      omega
    clear h2
    refine wp_region_after (by kernel_rfl) (by kernel_rfl) ?_
    repeat (go_big_quiet_step (fail))
    refine wpQuiet_nil ?_
    rintro _ ⟨nq, rfl⟩
    have HB3 : Hid (Below w.heap.size w nq.now) := HBV.out.trans (nq.bel.mono HBV.out.size)
    go_wp2_with fail
    go_ret
    exact bres_no HF.out HB3.out
  obtain ⟨t, hte⟩ : ∃ t, c.Pats[k]? = some t := ⟨_, List.getElem?_eq_getElem (by have := HLN.out.1; omega)⟩
  obtain ⟨b, o, vs, rfl, hvl, hcl, hre⟩ := HEL.out k t hte
  obtain ⟨g0, g1, g2, ga, gl, gc, rfl⟩ := PatR.shape _ _ _ _ hre
  have f0 : V.cell? ⟨b, o + k * 4, none⟩ = some _ := hcl 0 _ rfl
  have f1 : V.cell? ⟨b, o + k * 4 + 1, none⟩ = some _ := hcl 1 _ rfl
  have f2 : V.cell? ⟨b, o + k * 4 + 2, none⟩ = some _ := hcl 2 _ rfl
  have f3 : V.cell? ⟨b, o + k * 4 + 3, none⟩ = some _ := hcl 3 _ rfl
  have p3 := After.cell f0
  have p4 := After.cell f1
  have p5 := After.cell f2
  have p6 := After.cell f3
  have h2' : (k : Int) < (l1 : Int) := by omega
  obtain ⟨bb, hbb⟩ : ∃ bb : Bool, bb = true ↔ pPatFits d t sl := by
    by_cases q : pPatFits d t sl
    · exact ⟨true, by simp [q]⟩
    · exact ⟨false, by simp [q]⟩
  have HCC : Hid (∀ X : World, Below V.heap.size V X → Calls Tryd.prog 58 #[.agg #[.int .i64 g0, .int .i64 g1, .string g2, .slice ga gl gc], .int .i64 sl] X fun e w' => e = .returned (.bool bb) ∧ Below X.heap.size X w') := fun X hX => by
    refine (implPatFits_any d _ t sl X (PatR.lasts d _ _ _ _ hre hX) (HWC.out.1.2.2 t (List.mem_of_getElem? hte)) ?_ (by constructor <;> omega)).mono ?_
    · have h5 := szRow_mem (f := szPatD d) hte
      have h6 := HWC.out.2
      unfold szCodeD at h6
      omega
    · rintro e w' ⟨b', rfl, hb', hB'⟩
      have : b' = bb := by
        cases b' <;> cases bb
        · rfl
        · exact hb'.2 (hbb.1 rfl)
        · exact (hbb.2 (hb'.1 rfl)).symm
        · rfl
      rw [this]
      exact ⟨rfl, hB'⟩
  have HF : Hid (bb = true ↔ PP) := by
    rw [← HPP.out]
    refine hbb.trans ⟨fun h => ⟨k, t, rfl, hte, h⟩, ?_⟩
    rintro ⟨k', p, r1, r2, r3⟩
    obtain rfl : k = k' := by omega
    rw [hte] at r2
    cases r2
    exact r3
  have hk0 : (0 : Int) ≤ (k : Int) := by omega
  clear hre hcl hvl hte hbb f0 f1 f2 f3 h1 h2
  refine wp_region_after (by kernel_rfl) (by kernel_rfl) ?_
  repeat (go_big_quiet_step ((go_at_call 58; exact calls_after (HCC.out _ (After.bel _)))))
  refine wpQuiet_nil ?_
  rintro _ ⟨nq, rfl⟩
  have HB3 : Hid (Below w.heap.size w nq.now) := HBV.out.trans (nq.bel.mono HBV.out.size)
  go_wp2_with fail
  go_ret
  exact bres_after HF.out HB3.out

set_option maxRecDepth 100000 in
set_option maxHeartbeats 4000000 in
theorem insFits_10 {d : Nat} (a0 : Option Addr) (l0 c0 : Nat) (a1 : Option Addr) (l1 c1 : Nat) (c : DCode d) (nm : ByteArray) (ag sl : Int) (v3 : Value) (n : Int) (s : ByteArray) (tq : Int) (w : World)
    (hc : CodeR d w [.slice a0 l0 c0, .slice a1 l1 c1] c) (hwc : WfCode d c) (hz : szCodeD d c ≤ 1048576) (ht : ShOk w) (hs : s.size ≤ 9223372036854775807) (hn : I64 n) (hsl0 : 0 ≤ sl) (hsl1 : sl ≤ 400) :
    Calls Tryd.prog 71 #[.agg #[.slice a0 l0 c0, .slice a1 l1 c1], .agg #[.string nm, .int .i64 ag, .int .i64 sl, v3], .agg #[.int .i64 10, .int .i64 n, .string s, .int .i64 tq]] w fun e w' => BRes (InsP c sl 10 n s tq) w e w' := by
  obtain ⟨PP, hPP⟩ : ∃ P : Prop, InsP c sl 10 n s tq = P := ⟨_, rfl⟩
  have HP0 : Hid (InsP c sl 10 n s tq = PP) := hPP
  rw [hPP]
  clear hPP
  obtain ⟨W, hW⟩ : ∃ W, W = ((w.alloc (.cells #[.slice a0 l0 c0, .slice a1 l1 c1] 32)).alloc (.cells #[.string nm, .int .i64 ag, .int .i64 sl, v3] 45)).alloc (.cells #[.int .i64 10, .int .i64 n, .string s, .int .i64 tq] 48) := ⟨_, rfl⟩
  have hA : Below w.heap.size w W := by rw [hW]; exact (((Below.refl _ _).alloc (Nat.le_refl _) _).alloc (by simp) _).alloc (by simp; omega) _
  obtain ⟨nA, nB, nC⟩ := heap_three w (.cells #[.slice a0 l0 c0, .slice a1 l1 c1] 32) (.cells #[.string nm, .int .i64 ag, .int .i64 sl, v3] 45) (.cells #[.int .i64 10, .int .i64 n, .string s, .int .i64 tq] 48)
  rw [← hW] at nA nB nC
  have HBX : Hid (_ ∧ _ ∧ _) := ⟨nA, nB, nC⟩
  have HA : Hid (Below w.heap.size w W) := hA
  have HCR : Hid (∀ V : World, Below w.heap.size w V → CodeR d V [.slice a0 l0 c0, .slice a1 l1 c1] c) := fun V hV => CodeR.lasts d _ _ _ _ hc hV
  have HWC : Hid (WfCode d c ∧ szCodeD d c ≤ 1048576) := ⟨hwc, hz⟩
  have hC := shaped_any 10 n s tq W (ht.later hA) hs (by omega) (by omega)
  rw [hW] at hC
  have HW : Hid (W = _) := hW
  clear hA nA nB nC hW hc hwc hz ht
  go_enter Tryd.func71, Tryd.ntmps71
  go_wp2_with fail
  refine hC.mono ?_
  clear hC
  rintro e V ⟨b, rfl, hb, hB⟩
  rw [← HW.out] at hB
  have HBV : Hid (Below w.heap.size w V) := HA.out.trans (hB.mono HA.out.size)
  have nA := (hB.block _ (lt_row HBX.out.1)).trans HBX.out.1
  have nB := (hB.block _ (lt_row HBX.out.2.1)).trans HBX.out.2.1
  have nC := (hB.block _ (lt_row HBX.out.2.2)).trans HBX.out.2.2
  have hVs : w.heap.size + 1 + 1 < V.heap.size := lt_row nC
  have x0 : V.cell? ⟨w.heap.size + 1 + 1, 0, none⟩ = some (.int .i64 10) := by rw [cell_of_row V _ 0 _ _ _ nC]; rfl
  have x1 : V.cell? ⟨w.heap.size + 1 + 1, 1, none⟩ = some (.int .i64 n) := by rw [cell_of_row V _ 1 _ _ _ nC]; rfl
  have x2 : V.cell? ⟨w.heap.size + 1 + 1, 2, none⟩ = some (.string s) := by rw [cell_of_row V _ 2 _ _ _ nC]; rfl
  have y2 : V.cell? ⟨w.heap.size + 1, 2, none⟩ = some (.int .i64 sl) := by rw [cell_of_row V _ 2 _ _ _ nB]; rfl
  have z0 : V.cell? ⟨w.heap.size, 0, none⟩ = some (.slice a0 l0 c0) := by rw [cell_of_row V _ 0 _ _ _ nA]; rfl
  have z1 : V.cell? ⟨w.heap.size, 1, none⟩ = some (.slice a1 l1 c1) := by rw [cell_of_row V _ 1 _ _ _ nA]; rfl
  have HN : Hid (_ ∧ _) := ⟨nA, nC⟩
  clear hB HBX HW HA nA nB nC
  cases b with
  | false =>
    have HF : Hid (¬ PP) := by rw [← HP0.out]; exact fun h => by have := hb.2 (ins_shape h); cases this
    clear hb x0 x1 x2 y2 z0 z1 HN
    go_wp2_with fail
    go_ret
    exact bres_no HF.out HBV.out
  | true =>
  have hsh := hb.1 rfl
  rw [shD10] at hsh
  have HF : Hid PP := by rw [← HP0.out, insP10]; exact hsh
  clear hb hsh x1 x2 y2 z0 z1 HN
  go_wp2_with fail
  go_ret
  exact bres_yes HF.out HBV.out

set_option maxRecDepth 100000 in
set_option maxHeartbeats 4000000 in
theorem insFits_11 {d : Nat} (a0 : Option Addr) (l0 c0 : Nat) (a1 : Option Addr) (l1 c1 : Nat) (c : DCode d) (nm : ByteArray) (ag sl : Int) (v3 : Value) (n : Int) (s : ByteArray) (tq : Int) (w : World)
    (hc : CodeR d w [.slice a0 l0 c0, .slice a1 l1 c1] c) (hwc : WfCode d c) (hz : szCodeD d c ≤ 1048576) (ht : ShOk w) (hs : s.size ≤ 9223372036854775807) (hn : I64 n) (hsl0 : 0 ≤ sl) (hsl1 : sl ≤ 400) :
    Calls Tryd.prog 71 #[.agg #[.slice a0 l0 c0, .slice a1 l1 c1], .agg #[.string nm, .int .i64 ag, .int .i64 sl, v3], .agg #[.int .i64 11, .int .i64 n, .string s, .int .i64 tq]] w fun e w' => BRes (InsP c sl 11 n s tq) w e w' := by
  obtain ⟨PP, hPP⟩ : ∃ P : Prop, InsP c sl 11 n s tq = P := ⟨_, rfl⟩
  have HP0 : Hid (InsP c sl 11 n s tq = PP) := hPP
  rw [hPP]
  clear hPP
  obtain ⟨W, hW⟩ : ∃ W, W = ((w.alloc (.cells #[.slice a0 l0 c0, .slice a1 l1 c1] 32)).alloc (.cells #[.string nm, .int .i64 ag, .int .i64 sl, v3] 45)).alloc (.cells #[.int .i64 11, .int .i64 n, .string s, .int .i64 tq] 48) := ⟨_, rfl⟩
  have hA : Below w.heap.size w W := by rw [hW]; exact (((Below.refl _ _).alloc (Nat.le_refl _) _).alloc (by simp) _).alloc (by simp; omega) _
  obtain ⟨nA, nB, nC⟩ := heap_three w (.cells #[.slice a0 l0 c0, .slice a1 l1 c1] 32) (.cells #[.string nm, .int .i64 ag, .int .i64 sl, v3] 45) (.cells #[.int .i64 11, .int .i64 n, .string s, .int .i64 tq] 48)
  rw [← hW] at nA nB nC
  have HBX : Hid (_ ∧ _ ∧ _) := ⟨nA, nB, nC⟩
  have HA : Hid (Below w.heap.size w W) := hA
  have HCR : Hid (∀ V : World, Below w.heap.size w V → CodeR d V [.slice a0 l0 c0, .slice a1 l1 c1] c) := fun V hV => CodeR.lasts d _ _ _ _ hc hV
  have HWC : Hid (WfCode d c ∧ szCodeD d c ≤ 1048576) := ⟨hwc, hz⟩
  have hC := shaped_any 11 n s tq W (ht.later hA) hs (by omega) (by omega)
  rw [hW] at hC
  have HW : Hid (W = _) := hW
  clear hA nA nB nC hW hc hwc hz ht
  go_enter Tryd.func71, Tryd.ntmps71
  go_wp2_with fail
  refine hC.mono ?_
  clear hC
  rintro e V ⟨b, rfl, hb, hB⟩
  rw [← HW.out] at hB
  have HBV : Hid (Below w.heap.size w V) := HA.out.trans (hB.mono HA.out.size)
  have nA := (hB.block _ (lt_row HBX.out.1)).trans HBX.out.1
  have nB := (hB.block _ (lt_row HBX.out.2.1)).trans HBX.out.2.1
  have nC := (hB.block _ (lt_row HBX.out.2.2)).trans HBX.out.2.2
  have hVs : w.heap.size + 1 + 1 < V.heap.size := lt_row nC
  have x0 : V.cell? ⟨w.heap.size + 1 + 1, 0, none⟩ = some (.int .i64 11) := by rw [cell_of_row V _ 0 _ _ _ nC]; rfl
  have x1 : V.cell? ⟨w.heap.size + 1 + 1, 1, none⟩ = some (.int .i64 n) := by rw [cell_of_row V _ 1 _ _ _ nC]; rfl
  have x2 : V.cell? ⟨w.heap.size + 1 + 1, 2, none⟩ = some (.string s) := by rw [cell_of_row V _ 2 _ _ _ nC]; rfl
  have y2 : V.cell? ⟨w.heap.size + 1, 2, none⟩ = some (.int .i64 sl) := by rw [cell_of_row V _ 2 _ _ _ nB]; rfl
  have z0 : V.cell? ⟨w.heap.size, 0, none⟩ = some (.slice a0 l0 c0) := by rw [cell_of_row V _ 0 _ _ _ nA]; rfl
  have z1 : V.cell? ⟨w.heap.size, 1, none⟩ = some (.slice a1 l1 c1) := by rw [cell_of_row V _ 1 _ _ _ nA]; rfl
  have HN : Hid (_ ∧ _) := ⟨nA, nC⟩
  clear hB HBX HW HA nA nB nC
  cases b with
  | false =>
    have HF : Hid (¬ PP) := by rw [← HP0.out]; exact fun h => by have := hb.2 (ins_shape h); cases this
    clear hb x0 x1 x2 y2 z0 z1 HN
    go_wp2_with fail
    go_ret
    exact bres_no HF.out HBV.out
  | true =>
  have hsh := hb.1 rfl
  rw [shD11] at hsh
  have HF : Hid PP := by rw [← HP0.out, insP11]; exact hsh
  clear hb hsh x1 x2 y2 z0 z1 HN
  go_wp2_with fail
  go_ret
  exact bres_yes HF.out HBV.out

set_option maxRecDepth 100000 in
set_option maxHeartbeats 4000000 in
theorem insFits_12 {d : Nat} (a0 : Option Addr) (l0 c0 : Nat) (a1 : Option Addr) (l1 c1 : Nat) (c : DCode d) (nm : ByteArray) (ag sl : Int) (v3 : Value) (n : Int) (s : ByteArray) (tq : Int) (w : World)
    (hc : CodeR d w [.slice a0 l0 c0, .slice a1 l1 c1] c) (hwc : WfCode d c) (hz : szCodeD d c ≤ 1048576) (ht : ShOk w) (hs : s.size ≤ 9223372036854775807) (hn : I64 n) (hsl0 : 0 ≤ sl) (hsl1 : sl ≤ 400) :
    Calls Tryd.prog 71 #[.agg #[.slice a0 l0 c0, .slice a1 l1 c1], .agg #[.string nm, .int .i64 ag, .int .i64 sl, v3], .agg #[.int .i64 12, .int .i64 n, .string s, .int .i64 tq]] w fun e w' => BRes (InsP c sl 12 n s tq) w e w' := by
  obtain ⟨PP, hPP⟩ : ∃ P : Prop, InsP c sl 12 n s tq = P := ⟨_, rfl⟩
  have HP0 : Hid (InsP c sl 12 n s tq = PP) := hPP
  rw [hPP]
  clear hPP
  obtain ⟨W, hW⟩ : ∃ W, W = ((w.alloc (.cells #[.slice a0 l0 c0, .slice a1 l1 c1] 32)).alloc (.cells #[.string nm, .int .i64 ag, .int .i64 sl, v3] 45)).alloc (.cells #[.int .i64 12, .int .i64 n, .string s, .int .i64 tq] 48) := ⟨_, rfl⟩
  have hA : Below w.heap.size w W := by rw [hW]; exact (((Below.refl _ _).alloc (Nat.le_refl _) _).alloc (by simp) _).alloc (by simp; omega) _
  obtain ⟨nA, nB, nC⟩ := heap_three w (.cells #[.slice a0 l0 c0, .slice a1 l1 c1] 32) (.cells #[.string nm, .int .i64 ag, .int .i64 sl, v3] 45) (.cells #[.int .i64 12, .int .i64 n, .string s, .int .i64 tq] 48)
  rw [← hW] at nA nB nC
  have HBX : Hid (_ ∧ _ ∧ _) := ⟨nA, nB, nC⟩
  have HA : Hid (Below w.heap.size w W) := hA
  have HCR : Hid (∀ V : World, Below w.heap.size w V → CodeR d V [.slice a0 l0 c0, .slice a1 l1 c1] c) := fun V hV => CodeR.lasts d _ _ _ _ hc hV
  have HWC : Hid (WfCode d c ∧ szCodeD d c ≤ 1048576) := ⟨hwc, hz⟩
  have hC := shaped_any 12 n s tq W (ht.later hA) hs (by omega) (by omega)
  rw [hW] at hC
  have HW : Hid (W = _) := hW
  clear hA nA nB nC hW hc hwc hz ht
  go_enter Tryd.func71, Tryd.ntmps71
  go_wp2_with fail
  refine hC.mono ?_
  clear hC
  rintro e V ⟨b, rfl, hb, hB⟩
  rw [← HW.out] at hB
  have HBV : Hid (Below w.heap.size w V) := HA.out.trans (hB.mono HA.out.size)
  have nA := (hB.block _ (lt_row HBX.out.1)).trans HBX.out.1
  have nB := (hB.block _ (lt_row HBX.out.2.1)).trans HBX.out.2.1
  have nC := (hB.block _ (lt_row HBX.out.2.2)).trans HBX.out.2.2
  have hVs : w.heap.size + 1 + 1 < V.heap.size := lt_row nC
  have x0 : V.cell? ⟨w.heap.size + 1 + 1, 0, none⟩ = some (.int .i64 12) := by rw [cell_of_row V _ 0 _ _ _ nC]; rfl
  have x1 : V.cell? ⟨w.heap.size + 1 + 1, 1, none⟩ = some (.int .i64 n) := by rw [cell_of_row V _ 1 _ _ _ nC]; rfl
  have x2 : V.cell? ⟨w.heap.size + 1 + 1, 2, none⟩ = some (.string s) := by rw [cell_of_row V _ 2 _ _ _ nC]; rfl
  have y2 : V.cell? ⟨w.heap.size + 1, 2, none⟩ = some (.int .i64 sl) := by rw [cell_of_row V _ 2 _ _ _ nB]; rfl
  have z0 : V.cell? ⟨w.heap.size, 0, none⟩ = some (.slice a0 l0 c0) := by rw [cell_of_row V _ 0 _ _ _ nA]; rfl
  have z1 : V.cell? ⟨w.heap.size, 1, none⟩ = some (.slice a1 l1 c1) := by rw [cell_of_row V _ 1 _ _ _ nA]; rfl
  have HN : Hid (_ ∧ _) := ⟨nA, nC⟩
  clear hB HBX HW HA nA nB nC
  cases b with
  | false =>
    have HF : Hid (¬ PP) := by rw [← HP0.out]; exact fun h => by have := hb.2 (ins_shape h); cases this
    clear hb x0 x1 x2 y2 z0 z1 HN
    go_wp2_with fail
    go_ret
    exact bres_no HF.out HBV.out
  | true =>
  have hsh := hb.1 rfl
  rw [shD12] at hsh
  have HF : Hid PP := by rw [← HP0.out, insP12]; exact hsh
  clear hb hsh x1 x2 y2 z0 z1 HN
  go_wp2_with fail
  go_ret
  exact bres_yes HF.out HBV.out

set_option maxRecDepth 100000 in
set_option maxHeartbeats 4000000 in
theorem insFits_no {d : Nat} (a0 : Option Addr) (l0 c0 : Nat) (a1 : Option Addr) (l1 c1 : Nat) (c : DCode d) (nm : ByteArray) (ag sl : Int) (v3 : Value) (op n : Int) (s : ByteArray) (tq : Int) (w : World) (h : op < 1 ∨ 12 < op) :
    Calls Tryd.prog 71 #[.agg #[.slice a0 l0 c0, .slice a1 l1 c1], .agg #[.string nm, .int .i64 ag, .int .i64 sl, v3], .agg #[.int .i64 op, .int .i64 n, .string s, .int .i64 tq]] w fun e w' => BRes (InsP c sl op n s tq) w e w' := by
  have HF : Hid (¬ InsP c sl op n s tq) := fun q => by have := q.op; omega
  obtain ⟨W, hW⟩ : ∃ W, W = ((w.alloc (.cells #[.slice a0 l0 c0, .slice a1 l1 c1] 32)).alloc (.cells #[.string nm, .int .i64 ag, .int .i64 sl, v3] 45)).alloc (.cells #[.int .i64 op, .int .i64 n, .string s, .int .i64 tq] 48) := ⟨_, rfl⟩
  have HA : Hid (Below w.heap.size w W) := by rw [hW]; exact (((Below.refl _ _).alloc (Nat.le_refl _) _).alloc (by simp) _).alloc (by simp; omega) _
  have hC := shaped_no op n s tq W h
  rw [hW] at hC
  have HW : Hid (W = _) := hW
  clear h hW
  go_enter Tryd.func71, Tryd.ntmps71
  go_wp2_with fail
  refine hC.mono ?_
  clear hC
  rintro e V ⟨rfl, hB⟩
  rw [← HW.out] at hB
  have HBV : Hid (Below w.heap.size w V) := HA.out.trans (hB.mono HA.out.size)
  clear hB HA HW
  go_wp2_with fail
  go_ret
  exact bres_no HF.out HBV.out

theorem insFits_any {d : Nat} (a0 : Option Addr) (l0 c0 : Nat) (a1 : Option Addr) (l1 c1 : Nat) (c : DCode d) (nm : ByteArray) (ag sl : Int) (v3 : Value) (op n : Int) (s : ByteArray) (tq : Int) (w : World)
    (hc : CodeR d w [.slice a0 l0 c0, .slice a1 l1 c1] c) (hwc : WfCode d c) (hz : szCodeD d c ≤ 1048576) (ht : ShOk w) (hs : s.size ≤ 9223372036854775807) (hn : I64 n) (hsl0 : 0 ≤ sl) (hsl1 : sl ≤ 400) :
    Calls Tryd.prog 71 #[.agg #[.slice a0 l0 c0, .slice a1 l1 c1], .agg #[.string nm, .int .i64 ag, .int .i64 sl, v3], .agg #[.int .i64 op, .int .i64 n, .string s, .int .i64 tq]] w fun e w' => BRes (InsP c sl op n s tq) w e w' := by
  by_cases h : op < 1 ∨ 12 < op
  · exact insFits_no a0 l0 c0 a1 l1 c1 c nm ag sl v3 op n s tq w h
  · rcases ins_ops (op := op) (by omega) (by omega) with rfl | rfl | rfl | rfl | rfl | rfl | rfl | rfl | rfl | rfl | rfl | rfl
    · exact insFits_1 a0 l0 c0 a1 l1 c1 c nm ag sl v3 n s tq w hc hwc hz ht hs hn hsl0 hsl1
    · exact insFits_2 a0 l0 c0 a1 l1 c1 c nm ag sl v3 n s tq w hc hwc hz ht hs hn hsl0 hsl1
    · exact insFits_3 a0 l0 c0 a1 l1 c1 c nm ag sl v3 n s tq w hc hwc hz ht hs hn hsl0 hsl1
    · exact insFits_4 a0 l0 c0 a1 l1 c1 c nm ag sl v3 n s tq w hc hwc hz ht hs hn hsl0 hsl1
    · exact insFits_5 a0 l0 c0 a1 l1 c1 c nm ag sl v3 n s tq w hc hwc hz ht hs hn hsl0 hsl1
    · exact insFits_6 a0 l0 c0 a1 l1 c1 c nm ag sl v3 n s tq w hc hwc hz ht hs hn hsl0 hsl1
    · exact insFits_7 a0 l0 c0 a1 l1 c1 c nm ag sl v3 n s tq w hc hwc hz ht hs hn hsl0 hsl1
    · exact insFits_8 a0 l0 c0 a1 l1 c1 c nm ag sl v3 n s tq w hc hwc hz ht hs hn hsl0 hsl1
    · exact insFits_9 a0 l0 c0 a1 l1 c1 c nm ag sl v3 n s tq w hc hwc hz ht hs hn hsl0 hsl1
    · exact insFits_10 a0 l0 c0 a1 l1 c1 c nm ag sl v3 n s tq w hc hwc hz ht hs hn hsl0 hsl1
    · exact insFits_11 a0 l0 c0 a1 l1 c1 c nm ag sl v3 n s tq w hc hwc hz ht hs hn hsl0 hsl1
    · exact insFits_12 a0 l0 c0 a1 l1 c1 c nm ag sl v3 n s tq w hc hwc hz ht hs hn hsl0 hsl1

end Go.Proofs.YtfachfimdenapaaDoor
