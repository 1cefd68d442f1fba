/- An instruction: whether it is right: the model's. -/
import Derived.Test.YtfachfimdenapaaDoorCk1M
import Derived.Test.YtfachfimdenapaaDoorTmM
import Derived.Test.YtfachfimdenapaaDoorFxM
namespace Go.Proofs.YtfachfimdenapaaDoor
open Go.RowKit
set_option linter.unusedVariables false

def LiP {d : Nat} (c : DCode d) (sl : Int) (l3 k : Nat) (op n : Int) (s : ByteArray) (tq : Int) : Prop := InsP c sl op n s tq ∧ (op = 9 ∨ op = 10 → (k : Int) + 1 ≤ tq ∧ tq ≤ (l3 : Int) - 1)
theorem bres_is {P : Prop} {w w' : World} {b : Bool} (h : b = true ↔ P) (hb : Below w.heap.size w w') : BRes P w (.returned (.bool b)) w' := ⟨b, rfl, h, hb⟩

set_option maxRecDepth 100000 in
set_option maxHeartbeats 4000000 in
theorem l9Ins_1 {d : Nat} (a0 : Option Addr) (l0 c0 : Nat) (a1 : Option Addr) (l1 c1 : Nat) (c : DCode d) (nm : ByteArray) (ag sl : Int) (b o l3 c3 k : Nat) (n : Int) (s : ByteArray) (tq : Int) (w : World)
    (hc : CodeR d w [.slice a0 l0 c0, .slice a1 l1 c1] c) (hwc : WfCode d c) (hz : szCodeD d c ≤ 1048576) (f0 : w.cell? ⟨b, o + k * 4, none⟩ = some (.int .i64 1)) (f1 : w.cell? ⟨b, o + k * 4 + 1, none⟩ = some (.int .i64 n)) (f2 : w.cell? ⟨b, o + k * 4 + 2, none⟩ = some (.string s)) (f3 : w.cell? ⟨b, o + k * 4 + 3, none⟩ = some (.int .i64 tq))
    (hk : k < l3) (hl3 : l3 ≤ 1048576) (hs : s.size ≤ 9223372036854775807) (hn : I64 n) (hsl0 : 0 ≤ sl) (hsl1 : sl ≤ 400) :
    Calls Tryd.prog 50 #[.agg #[.slice a0 l0 c0, .slice a1 l1 c1], .agg #[.string nm, .int .i64 ag, .int .i64 sl, .slice (some ⟨b, o, none⟩) l3 c3], .int .i64 k] w fun e w' => BRes (LiP c sl l3 k 1 n s tq) w e w' := by
  obtain ⟨PP, hPP⟩ : ∃ P : Prop, LiP c sl l3 k 1 n s tq = P := ⟨_, rfl⟩
  have HPP : Hid (LiP c sl l3 k 1 n s tq = PP) := hPP
  rw [hPP]
  clear hPP
  obtain ⟨W, hW⟩ : ∃ W, W = ((w.alloc (.cells #[.slice a0 l0 c0, .slice a1 l1 c1] 32)).alloc (.cells #[.string nm, .int .i64 ag, .int .i64 sl, .slice (some ⟨b, o, none⟩) l3 c3] 45)).alloc (.cells #[.int .i64 1, .int .i64 n, .string s, .int .i64 tq] 48) := ⟨_, rfl⟩
  have hA : Below w.heap.size w W := by rw [hW]; exact (((Below.refl _ _).alloc (Nat.le_refl _) _).alloc (by simp) _).alloc (by simp; omega) _
  obtain ⟨nA, nB, nC⟩ := heap_three w (.cells #[.slice a0 l0 c0, .slice a1 l1 c1] 32) (.cells #[.string nm, .int .i64 ag, .int .i64 sl, .slice (some ⟨b, o, none⟩) l3 c3] 45) (.cells #[.int .i64 1, .int .i64 n, .string s, .int .i64 tq] 48)
  rw [← hW] at nA nB nC
  have HA : Hid (Below w.heap.size w W) := hA
  have HCR : Hid (CodeR d W [.slice a0 l0 c0, .slice a1 l1 c1] c) := CodeR.lasts d _ _ _ _ hc hA
  have HWC : Hid (WfCode d c ∧ szCodeD d c ≤ 1048576) := ⟨hwc, hz⟩
  have hk' : (k : Int) < (l3 : Int) := by omega
  have hbl : b < w.heap.size := by have := World.block_lt_of_cell? w _ f0; simpa using this
  have hl1 : l1 ≤ 1048576 := by
    obtain ⟨w0, w1, e0, hF, hP⟩ := hc
    simp only [List.cons.injEq, and_true] at e0
    obtain ⟨rfl, rfl⟩ := e0
    obtain ⟨aa, cc, ee⟩ := hP.slice
    simp only [Value.slice.injEq] at ee
    have := szRow_len (szPatD d) c.Pats
    unfold szCodeD at hz
    omega
  have hVs : w.heap.size + 1 + 1 < W.heap.size := lt_row nC
  have x0 : W.cell? ⟨w.heap.size + 1 + 1, 0, none⟩ = some (.int .i64 1) := by rw [cell_of_row W _ 0 _ _ _ nC]; rfl
  have x1 : W.cell? ⟨w.heap.size + 1 + 1, 1, none⟩ = some (.int .i64 n) := by rw [cell_of_row W _ 1 _ _ _ nC]; rfl
  have x2 : W.cell? ⟨w.heap.size + 1 + 1, 2, none⟩ = some (.string s) := by rw [cell_of_row W _ 2 _ _ _ nC]; rfl
  have x3 : W.cell? ⟨w.heap.size + 1 + 1, 3, none⟩ = some (.int .i64 tq) := by rw [cell_of_row W _ 3 _ _ _ nC]; rfl
  have y2 : W.cell? ⟨w.heap.size + 1, 2, none⟩ = some (.int .i64 sl) := by rw [cell_of_row W _ 2 _ _ _ nB]; rfl
  have y3 : W.cell? ⟨w.heap.size + 1, 3, none⟩ = some (.slice (some ⟨b, o, none⟩) l3 c3) := by rw [cell_of_row W _ 3 _ _ _ nB]; rfl
  have z0 : W.cell? ⟨w.heap.size, 0, none⟩ = some (.slice a0 l0 c0) := by rw [cell_of_row W _ 0 _ _ _ nA]; rfl
  have z1 : W.cell? ⟨w.heap.size, 1, none⟩ = some (.slice a1 l1 c1) := by rw [cell_of_row W _ 1 _ _ _ nA]; rfl
  have hIN := in_call tq ((k : Int) + 1) ((l3 : Int) - 1) W
  clear hc hwc hz hA nA nB nC
  by_cases hse : s.size = 0
  · have he : s.toList.isEmpty = true := (empty_iff s).2 hse
    have HSE : Hid (s.size = 0) := hse
    clear hse
    rw [hW] at hIN
    go_enter Tryd.func50, Tryd.ntmps50
    go_wp2_with fail
    refine hIN.mono ?_
    clear hIN
    rintro e V ⟨b2, rfl, hb2, hV⟩
    rw [← hW] at hV
    subst hV
    have HB2 : Hid (b2 = true ↔ (k : Int) + 1 ≤ tq ∧ tq ≤ (l3 : Int) - 1) := hb2
    clear hb2 hW f0 f1 f2 f3
    by_cases ht0 : tq = 0
    case neg =>
      have HF : Hid (¬ PP) := by rw [← HPP.out]; rintro ⟨h, h2⟩; rw [insP1] at h; exact ht0 h.2.1
      have ht1 : (tq == 0) = false := by simp [ht0]
      clear ht0
      go_wp2_with fail
      go_ret
      exact bres_no HF.out HA.out
    have ht1 : (tq == 0) = true := by simp [ht0]
    have HTO : Hid (tq = 0) := ht0
    clear ht0
    have hC := in_call n 0 1000000000000 W
    go_wp2_with fail
    refine hC.mono ?_
    clear hC
    rintro e V ⟨b3, rfl, hb3, hV⟩
    subst hV
    have HF : Hid (b3 = true ↔ PP) := by
      rw [← HPP.out]
      constructor
      · intro h
        have := hb3.1 h
        exact ⟨by rw [insP1]; exact ⟨HSE.out, HTO.out, this.1, by omega⟩, fun e => by omega⟩
      · rintro ⟨h, _⟩
        rw [insP1] at h
        exact hb3.2 ⟨h.2.2.1, by have := h.2.2.2; omega⟩
    clear hb3
    go_wp2_with fail
    go_ret
    exact bres_is HF.out HA.out
  · have he : s.toList.isEmpty = false := empty_no hse
    have HSE : Hid (¬ s.size = 0) := hse
    clear hse hIN
    have HF : Hid (¬ PP) := by rw [← HPP.out]; rintro ⟨h, h2⟩; rw [insP1] at h; exact HSE.out h.1
    rw [hW] at HA
    go_enter Tryd.func50, Tryd.ntmps50
    go_wp2_with fail
    go_ret
    exact bres_no HF.out HA.out

set_option maxRecDepth 100000 in
set_option maxHeartbeats 4000000 in
theorem l9Ins_3 {d : Nat} (a0 : Option Addr) (l0 c0 : Nat) (a1 : Option Addr) (l1 c1 : Nat) (c : DCode d) (nm : ByteArray) (ag sl : Int) (b o l3 c3 k : Nat) (n : Int) (s : ByteArray) (tq : Int) (w : World)
    (hc : CodeR d w [.slice a0 l0 c0, .slice a1 l1 c1] c) (hwc : WfCode d c) (hz : szCodeD d c ≤ 1048576) (f0 : w.cell? ⟨b, o + k * 4, none⟩ = some (.int .i64 3)) (f1 : w.cell? ⟨b, o + k * 4 + 1, none⟩ = some (.int .i64 n)) (f2 : w.cell? ⟨b, o + k * 4 + 2, none⟩ = some (.string s)) (f3 : w.cell? ⟨b, o + k * 4 + 3, none⟩ = some (.int .i64 tq))
    (hk : k < l3) (hl3 : l3 ≤ 1048576) (hs : s.size ≤ 9223372036854775807) (hn : I64 n) (hsl0 : 0 ≤ sl) (hsl1 : sl ≤ 400) :
    Calls Tryd.prog 50 #[.agg #[.slice a0 l0 c0, .slice a1 l1 c1], .agg #[.string nm, .int .i64 ag, .int .i64 sl, .slice (some ⟨b, o, none⟩) l3 c3], .int .i64 k] w fun e w' => BRes (LiP c sl l3 k 3 n s tq) w e w' := by
  obtain ⟨PP, hPP⟩ : ∃ P : Prop, LiP c sl l3 k 3 n s tq = P := ⟨_, rfl⟩
  have HPP : Hid (LiP c sl l3 k 3 n s tq = PP) := hPP
  rw [hPP]
  clear hPP
  obtain ⟨W, hW⟩ : ∃ W, W = ((w.alloc (.cells #[.slice a0 l0 c0, .slice a1 l1 c1] 32)).alloc (.cells #[.string nm, .int .i64 ag, .int .i64 sl, .slice (some ⟨b, o, none⟩) l3 c3] 45)).alloc (.cells #[.int .i64 3, .int .i64 n, .string s, .int .i64 tq] 48) := ⟨_, rfl⟩
  have hA : Below w.heap.size w W := by rw [hW]; exact (((Below.refl _ _).alloc (Nat.le_refl _) _).alloc (by simp) _).alloc (by simp; omega) _
  obtain ⟨nA, nB, nC⟩ := heap_three w (.cells #[.slice a0 l0 c0, .slice a1 l1 c1] 32) (.cells #[.string nm, .int .i64 ag, .int .i64 sl, .slice (some ⟨b, o, none⟩) l3 c3] 45) (.cells #[.int .i64 3, .int .i64 n, .string s, .int .i64 tq] 48)
  rw [← hW] at nA nB nC
  have HA : Hid (Below w.heap.size w W) := hA
  have HCR : Hid (CodeR d W [.slice a0 l0 c0, .slice a1 l1 c1] c) := CodeR.lasts d _ _ _ _ hc hA
  have HWC : Hid (WfCode d c ∧ szCodeD d c ≤ 1048576) := ⟨hwc, hz⟩
  have hk' : (k : Int) < (l3 : Int) := by omega
  have hbl : b < w.heap.size := by have := World.block_lt_of_cell? w _ f0; simpa using this
  have hl1 : l1 ≤ 1048576 := by
    obtain ⟨w0, w1, e0, hF, hP⟩ := hc
    simp only [List.cons.injEq, and_true] at e0
    obtain ⟨rfl, rfl⟩ := e0
    obtain ⟨aa, cc, ee⟩ := hP.slice
    simp only [Value.slice.injEq] at ee
    have := szRow_len (szPatD d) c.Pats
    unfold szCodeD at hz
    omega
  have hVs : w.heap.size + 1 + 1 < W.heap.size := lt_row nC
  have x0 : W.cell? ⟨w.heap.size + 1 + 1, 0, none⟩ = some (.int .i64 3) := by rw [cell_of_row W _ 0 _ _ _ nC]; rfl
  have x1 : W.cell? ⟨w.heap.size + 1 + 1, 1, none⟩ = some (.int .i64 n) := by rw [cell_of_row W _ 1 _ _ _ nC]; rfl
  have x2 : W.cell? ⟨w.heap.size + 1 + 1, 2, none⟩ = some (.string s) := by rw [cell_of_row W _ 2 _ _ _ nC]; rfl
  have x3 : W.cell? ⟨w.heap.size + 1 + 1, 3, none⟩ = some (.int .i64 tq) := by rw [cell_of_row W _ 3 _ _ _ nC]; rfl
  have y2 : W.cell? ⟨w.heap.size + 1, 2, none⟩ = some (.int .i64 sl) := by rw [cell_of_row W _ 2 _ _ _ nB]; rfl
  have y3 : W.cell? ⟨w.heap.size + 1, 3, none⟩ = some (.slice (some ⟨b, o, none⟩) l3 c3) := by rw [cell_of_row W _ 3 _ _ _ nB]; rfl
  have z0 : W.cell? ⟨w.heap.size, 0, none⟩ = some (.slice a0 l0 c0) := by rw [cell_of_row W _ 0 _ _ _ nA]; rfl
  have z1 : W.cell? ⟨w.heap.size, 1, none⟩ = some (.slice a1 l1 c1) := by rw [cell_of_row W _ 1 _ _ _ nA]; rfl
  have hIN := in_call tq ((k : Int) + 1) ((l3 : Int) - 1) W
  clear hc hwc hz hA nA nB nC
  by_cases hse : s.size = 0
  · have he : s.toList.isEmpty = true := (empty_iff s).2 hse
    have HSE : Hid (s.size = 0) := hse
    clear hse
    rw [hW] at hIN
    go_enter Tryd.func50, Tryd.ntmps50
    go_wp2_with fail
    refine hIN.mono ?_
    clear hIN
    rintro e V ⟨b2, rfl, hb2, hV⟩
    rw [← hW] at hV
    subst hV
    have HB2 : Hid (b2 = true ↔ (k : Int) + 1 ≤ tq ∧ tq ≤ (l3 : Int) - 1) := hb2
    clear hb2 hW f0 f1 f2 f3
    by_cases ht0 : tq = 0
    case neg =>
      have HF : Hid (¬ PP) := by rw [← HPP.out]; rintro ⟨h, h2⟩; rw [insP3] at h; exact ht0 h.2.1
      have ht1 : (tq == 0) = false := by simp [ht0]
      clear ht0
      go_wp2_with fail
      go_ret
      exact bres_no HF.out HA.out
    have ht1 : (tq == 0) = true := by simp [ht0]
    have HTO : Hid (tq = 0) := ht0
    clear ht0
    have hC := in_call n 0 (sl - 1) W
    go_wp2_with fail
    refine hC.mono ?_
    clear hC
    rintro e V ⟨b3, rfl, hb3, hV⟩
    subst hV
    have HF : Hid (b3 = true ↔ PP) := by
      rw [← HPP.out]
      constructor
      · intro h
        have := hb3.1 h
        exact ⟨by rw [insP3]; exact ⟨HSE.out, HTO.out, this.1, by omega⟩, fun e => by omega⟩
      · rintro ⟨h, _⟩
        rw [insP3] at h
        exact hb3.2 ⟨h.2.2.1, by have := h.2.2.2; omega⟩
    clear hb3
    go_wp2_with fail
    go_ret
    exact bres_is HF.out HA.out
  · have he : s.toList.isEmpty = false := empty_no hse
    have HSE : Hid (¬ s.size = 0) := hse
    clear hse hIN
    have HF : Hid (¬ PP) := by rw [← HPP.out]; rintro ⟨h, h2⟩; rw [insP3] at h; exact HSE.out h.1
    rw [hW] at HA
    go_enter Tryd.func50, Tryd.ntmps50
    go_wp2_with fail
    go_ret
    exact bres_no HF.out HA.out

set_option maxRecDepth 100000 in
set_option maxHeartbeats 4000000 in
theorem l9Ins_4 {d : Nat} (a0 : Option Addr) (l0 c0 : Nat) (a1 : Option Addr) (l1 c1 : Nat) (c : DCode d) (nm : ByteArray) (ag sl : Int) (b o l3 c3 k : Nat) (n : Int) (s : ByteArray) (tq : Int) (w : World)
    (hc : CodeR d w [.slice a0 l0 c0, .slice a1 l1 c1] c) (hwc : WfCode d c) (hz : szCodeD d c ≤ 1048576) (f0 : w.cell? ⟨b, o + k * 4, none⟩ = some (.int .i64 4)) (f1 : w.cell? ⟨b, o + k * 4 + 1, none⟩ = some (.int .i64 n)) (f2 : w.cell? ⟨b, o + k * 4 + 2, none⟩ = some (.string s)) (f3 : w.cell? ⟨b, o + k * 4 + 3, none⟩ = some (.int .i64 tq))
    (hk : k < l3) (hl3 : l3 ≤ 1048576) (hs : s.size ≤ 9223372036854775807) (hn : I64 n) (hsl0 : 0 ≤ sl) (hsl1 : sl ≤ 400) :
    Calls Tryd.prog 50 #[.agg #[.slice a0 l0 c0, .slice a1 l1 c1], .agg #[.string nm, .int .i64 ag, .int .i64 sl, .slice (some ⟨b, o, none⟩) l3 c3], .int .i64 k] w fun e w' => BRes (LiP c sl l3 k 4 n s tq) w e w' := by
  obtain ⟨PP, hPP⟩ : ∃ P : Prop, LiP c sl l3 k 4 n s tq = P := ⟨_, rfl⟩
  have HPP : Hid (LiP c sl l3 k 4 n s tq = PP) := hPP
  rw [hPP]
  clear hPP
  obtain ⟨W, hW⟩ : ∃ W, W = ((w.alloc (.cells #[.slice a0 l0 c0, .slice a1 l1 c1] 32)).alloc (.cells #[.string nm, .int .i64 ag, .int .i64 sl, .slice (some ⟨b, o, none⟩) l3 c3] 45)).alloc (.cells #[.int .i64 4, .int .i64 n, .string s, .int .i64 tq] 48) := ⟨_, rfl⟩
  have hA : Below w.heap.size w W := by rw [hW]; exact (((Below.refl _ _).alloc (Nat.le_refl _) _).alloc (by simp) _).alloc (by simp; omega) _
  obtain ⟨nA, nB, nC⟩ := heap_three w (.cells #[.slice a0 l0 c0, .slice a1 l1 c1] 32) (.cells #[.string nm, .int .i64 ag, .int .i64 sl, .slice (some ⟨b, o, none⟩) l3 c3] 45) (.cells #[.int .i64 4, .int .i64 n, .string s, .int .i64 tq] 48)
  rw [← hW] at nA nB nC
  have HA : Hid (Below w.heap.size w W) := hA
  have HCR : Hid (CodeR d W [.slice a0 l0 c0, .slice a1 l1 c1] c) := CodeR.lasts d _ _ _ _ hc hA
  have HWC : Hid (WfCode d c ∧ szCodeD d c ≤ 1048576) := ⟨hwc, hz⟩
  have hk' : (k : Int) < (l3 : Int) := by omega
  have hbl : b < w.heap.size := by have := World.block_lt_of_cell? w _ f0; simpa using this
  have hl1 : l1 ≤ 1048576 := by
    obtain ⟨w0, w1, e0, hF, hP⟩ := hc
    simp only [List.cons.injEq, and_true] at e0
    obtain ⟨rfl, rfl⟩ := e0
    obtain ⟨aa, cc, ee⟩ := hP.slice
    simp only [Value.slice.injEq] at ee
    have := szRow_len (szPatD d) c.Pats
    unfold szCodeD at hz
    omega
  have hVs : w.heap.size + 1 + 1 < W.heap.size := lt_row nC
  have x0 : W.cell? ⟨w.heap.size + 1 + 1, 0, none⟩ = some (.int .i64 4) := by rw [cell_of_row W _ 0 _ _ _ nC]; rfl
  have x1 : W.cell? ⟨w.heap.size + 1 + 1, 1, none⟩ = some (.int .i64 n) := by rw [cell_of_row W _ 1 _ _ _ nC]; rfl
  have x2 : W.cell? ⟨w.heap.size + 1 + 1, 2, none⟩ = some (.string s) := by rw [cell_of_row W _ 2 _ _ _ nC]; rfl
  have x3 : W.cell? ⟨w.heap.size + 1 + 1, 3, none⟩ = some (.int .i64 tq) := by rw [cell_of_row W _ 3 _ _ _ nC]; rfl
  have y2 : W.cell? ⟨w.heap.size + 1, 2, none⟩ = some (.int .i64 sl) := by rw [cell_of_row W _ 2 _ _ _ nB]; rfl
  have y3 : W.cell? ⟨w.heap.size + 1, 3, none⟩ = some (.slice (some ⟨b, o, none⟩) l3 c3) := by rw [cell_of_row W _ 3 _ _ _ nB]; rfl
  have z0 : W.cell? ⟨w.heap.size, 0, none⟩ = some (.slice a0 l0 c0) := by rw [cell_of_row W _ 0 _ _ _ nA]; rfl
  have z1 : W.cell? ⟨w.heap.size, 1, none⟩ = some (.slice a1 l1 c1) := by rw [cell_of_row W _ 1 _ _ _ nA]; rfl
  have hIN := in_call tq ((k : Int) + 1) ((l3 : Int) - 1) W
  clear hc hwc hz hA nA nB nC
  by_cases hse : s.size = 0
  · have he : s.toList.isEmpty = true := (empty_iff s).2 hse
    have HSE : Hid (s.size = 0) := hse
    clear hse
    rw [hW] at hIN
    go_enter Tryd.func50, Tryd.ntmps50
    go_wp2_with fail
    refine hIN.mono ?_
    clear hIN
    rintro e V ⟨b2, rfl, hb2, hV⟩
    rw [← hW] at hV
    subst hV
    have HB2 : Hid (b2 = true ↔ (k : Int) + 1 ≤ tq ∧ tq ≤ (l3 : Int) - 1) := hb2
    clear hb2 hW f0 f1 f2 f3
    by_cases ht0 : tq = 0
    case neg =>
      have HF : Hid (¬ PP) := by rw [← HPP.out]; rintro ⟨h, h2⟩; rw [insP4] at h; exact ht0 h.2.1
      have ht1 : (tq == 0) = false := by simp [ht0]
      clear ht0
      go_wp2_with fail
      go_ret
      exact bres_no HF.out HA.out
    have ht1 : (tq == 0) = true := by simp [ht0]
    have HTO : Hid (tq = 0) := ht0
    clear ht0
    have hC := in_call n 0 20 W
    go_wp2_with fail
    refine hC.mono ?_
    clear hC
    rintro e V ⟨b3, rfl, hb3, hV⟩
    subst hV
    have HF : Hid (b3 = true ↔ PP) := by
      rw [← HPP.out]
      constructor
      · intro h
        have := hb3.1 h
        exact ⟨by rw [insP4]; exact ⟨HSE.out, HTO.out, this.1, by omega⟩, fun e => by omega⟩
      · rintro ⟨h, _⟩
        rw [insP4] at h
        exact hb3.2 ⟨h.2.2.1, by have := h.2.2.2; omega⟩
    clear hb3
    go_wp2_with fail
    go_ret
    exact bres_is HF.out HA.out
  · have he : s.toList.isEmpty = false := empty_no hse
    have HSE : Hid (¬ s.size = 0) := hse
    clear hse hIN
    have HF : Hid (¬ PP) := by rw [← HPP.out]; rintro ⟨h, h2⟩; rw [insP4] at h; exact HSE.out h.1
    rw [hW] at HA
    go_enter Tryd.func50, Tryd.ntmps50
    go_wp2_with fail
    go_ret
    exact bres_no HF.out HA.out

set_option maxRecDepth 100000 in
set_option maxHeartbeats 4000000 in
theorem l9Ins_5 {d : Nat} (a0 : Option Addr) (l0 c0 : Nat) (a1 : Option Addr) (l1 c1 : Nat) (c : DCode d) (nm : ByteArray) (ag sl : Int) (b o l3 c3 k : Nat) (n : Int) (s : ByteArray) (tq : Int) (w : World)
    (hc : CodeR d w [.slice a0 l0 c0, .slice a1 l1 c1] c) (hwc : WfCode d c) (hz : szCodeD d c ≤ 1048576) (f0 : w.cell? ⟨b, o + k * 4, none⟩ = some (.int .i64 5)) (f1 : w.cell? ⟨b, o + k * 4 + 1, none⟩ = some (.int .i64 n)) (f2 : w.cell? ⟨b, o + k * 4 + 2, none⟩ = some (.string s)) (f3 : w.cell? ⟨b, o + k * 4 + 3, none⟩ = some (.int .i64 tq))
    (hk : k < l3) (hl3 : l3 ≤ 1048576) (hs : s.size ≤ 9223372036854775807) (hn : I64 n) (hsl0 : 0 ≤ sl) (hsl1 : sl ≤ 400) :
    Calls Tryd.prog 50 #[.agg #[.slice a0 l0 c0, .slice a1 l1 c1], .agg #[.string nm, .int .i64 ag, .int .i64 sl, .slice (some ⟨b, o, none⟩) l3 c3], .int .i64 k] w fun e w' => BRes (LiP c sl l3 k 5 n s tq) w e w' := by
  obtain ⟨PP, hPP⟩ : ∃ P : Prop, LiP c sl l3 k 5 n s tq = P := ⟨_, rfl⟩
  have HPP : Hid (LiP c sl l3 k 5 n s tq = PP) := hPP
  rw [hPP]
  clear hPP
  obtain ⟨W, hW⟩ : ∃ W, W = ((w.alloc (.cells #[.slice a0 l0 c0, .slice a1 l1 c1] 32)).alloc (.cells #[.string nm, .int .i64 ag, .int .i64 sl, .slice (some ⟨b, o, none⟩) l3 c3] 45)).alloc (.cells #[.int .i64 5, .int .i64 n, .string s, .int .i64 tq] 48) := ⟨_, rfl⟩
  have hA : Below w.heap.size w W := by rw [hW]; exact (((Below.refl _ _).alloc (Nat.le_refl _) _).alloc (by simp) _).alloc (by simp; omega) _
  obtain ⟨nA, nB, nC⟩ := heap_three w (.cells #[.slice a0 l0 c0, .slice a1 l1 c1] 32) (.cells #[.string nm, .int .i64 ag, .int .i64 sl, .slice (some ⟨b, o, none⟩) l3 c3] 45) (.cells #[.int .i64 5, .int .i64 n, .string s, .int .i64 tq] 48)
  rw [← hW] at nA nB nC
  have HA : Hid (Below w.heap.size w W) := hA
  have HCR : Hid (CodeR d W [.slice a0 l0 c0, .slice a1 l1 c1] c) := CodeR.lasts d _ _ _ _ hc hA
  have HWC : Hid (WfCode d c ∧ szCodeD d c ≤ 1048576) := ⟨hwc, hz⟩
  have hk' : (k : Int) < (l3 : Int) := by omega
  have hbl : b < w.heap.size := by have := World.block_lt_of_cell? w _ f0; simpa using this
  have hl1 : l1 ≤ 1048576 := by
    obtain ⟨w0, w1, e0, hF, hP⟩ := hc
    simp only [List.cons.injEq, and_true] at e0
    obtain ⟨rfl, rfl⟩ := e0
    obtain ⟨aa, cc, ee⟩ := hP.slice
    simp only [Value.slice.injEq] at ee
    have := szRow_len (szPatD d) c.Pats
    unfold szCodeD at hz
    omega
  have hVs : w.heap.size + 1 + 1 < W.heap.size := lt_row nC
  have x0 : W.cell? ⟨w.heap.size + 1 + 1, 0, none⟩ = some (.int .i64 5) := by rw [cell_of_row W _ 0 _ _ _ nC]; rfl
  have x1 : W.cell? ⟨w.heap.size + 1 + 1, 1, none⟩ = some (.int .i64 n) := by rw [cell_of_row W _ 1 _ _ _ nC]; rfl
  have x2 : W.cell? ⟨w.heap.size + 1 + 1, 2, none⟩ = some (.string s) := by rw [cell_of_row W _ 2 _ _ _ nC]; rfl
  have x3 : W.cell? ⟨w.heap.size + 1 + 1, 3, none⟩ = some (.int .i64 tq) := by rw [cell_of_row W _ 3 _ _ _ nC]; rfl
  have y2 : W.cell? ⟨w.heap.size + 1, 2, none⟩ = some (.int .i64 sl) := by rw [cell_of_row W _ 2 _ _ _ nB]; rfl
  have y3 : W.cell? ⟨w.heap.size + 1, 3, none⟩ = some (.slice (some ⟨b, o, none⟩) l3 c3) := by rw [cell_of_row W _ 3 _ _ _ nB]; rfl
  have z0 : W.cell? ⟨w.heap.size, 0, none⟩ = some (.slice a0 l0 c0) := by rw [cell_of_row W _ 0 _ _ _ nA]; rfl
  have z1 : W.cell? ⟨w.heap.size, 1, none⟩ = some (.slice a1 l1 c1) := by rw [cell_of_row W _ 1 _ _ _ nA]; rfl
  have hIN := in_call tq ((k : Int) + 1) ((l3 : Int) - 1) W
  clear hc hwc hz hA nA nB nC
  by_cases hse : s.size = 0
  · have he : s.toList.isEmpty = true := (empty_iff s).2 hse
    have HSE : Hid (s.size = 0) := hse
    clear hse
    rw [hW] at hIN
    go_enter Tryd.func50, Tryd.ntmps50
    go_wp2_with fail
    refine hIN.mono ?_
    clear hIN
    rintro e V ⟨b2, rfl, hb2, hV⟩
    rw [← hW] at hV
    subst hV
    have HB2 : Hid (b2 = true ↔ (k : Int) + 1 ≤ tq ∧ tq ≤ (l3 : Int) - 1) := hb2
    clear hb2 hW f0 f1 f2 f3
    by_cases ht0 : tq = 0
    case neg =>
      have HF : Hid (¬ PP) := by rw [← HPP.out]; rintro ⟨h, h2⟩; rw [insP5] at h; exact ht0 h.2.1
      have ht1 : (tq == 0) = false := by simp [ht0]
      clear ht0
      go_wp2_with fail
      go_ret
      exact bres_no HF.out HA.out
    have ht1 : (tq == 0) = true := by simp [ht0]
    have HTO : Hid (tq = 0) := ht0
    clear ht0
    have hC := in_call n 0 20 W
    go_wp2_with fail
    refine hC.mono ?_
    clear hC
    rintro e V ⟨b3, rfl, hb3, hV⟩
    subst hV
    have HF : Hid (b3 = true ↔ PP) := by
      rw [← HPP.out]
      constructor
      · intro h
        have := hb3.1 h
        exact ⟨by rw [insP5]; exact ⟨HSE.out, HTO.out, this.1, by omega⟩, fun e => by omega⟩
      · rintro ⟨h, _⟩
        rw [insP5] at h
        exact hb3.2 ⟨h.2.2.1, by have := h.2.2.2; omega⟩
    clear hb3
    go_wp2_with fail
    go_ret
    exact bres_is HF.out HA.out
  · have he : s.toList.isEmpty = false := empty_no hse
    have HSE : Hid (¬ s.size = 0) := hse
    clear hse hIN
    have HF : Hid (¬ PP) := by rw [← HPP.out]; rintro ⟨h, h2⟩; rw [insP5] at h; exact HSE.out h.1
    rw [hW] at HA
    go_enter Tryd.func50, Tryd.ntmps50
    go_wp2_with fail
    go_ret
    exact bres_no HF.out HA.out

set_option maxRecDepth 100000 in
set_option maxHeartbeats 4000000 in
theorem l9Ins_6 {d : Nat} (a0 : Option Addr) (l0 c0 : Nat) (a1 : Option Addr) (l1 c1 : Nat) (c : DCode d) (nm : ByteArray) (ag sl : Int) (b o l3 c3 k : Nat) (n : Int) (s : ByteArray) (tq : Int) (w : World)
    (hc : CodeR d w [.slice a0 l0 c0, .slice a1 l1 c1] c) (hwc : WfCode d c) (hz : szCodeD d c ≤ 1048576) (f0 : w.cell? ⟨b, o + k * 4, none⟩ = some (.int .i64 6)) (f1 : w.cell? ⟨b, o + k * 4 + 1, none⟩ = some (.int .i64 n)) (f2 : w.cell? ⟨b, o + k * 4 + 2, none⟩ = some (.string s)) (f3 : w.cell? ⟨b, o + k * 4 + 3, none⟩ = some (.int .i64 tq))
    (hk : k < l3) (hl3 : l3 ≤ 1048576) (hs : s.size ≤ 9223372036854775807) (hn : I64 n) (hsl0 : 0 ≤ sl) (hsl1 : sl ≤ 400) :
    Calls Tryd.prog 50 #[.agg #[.slice a0 l0 c0, .slice a1 l1 c1], .agg #[.string nm, .int .i64 ag, .int .i64 sl, .slice (some ⟨b, o, none⟩) l3 c3], .int .i64 k] w fun e w' => BRes (LiP c sl l3 k 6 n s tq) w e w' := by
  obtain ⟨PP, hPP⟩ : ∃ P : Prop, LiP c sl l3 k 6 n s tq = P := ⟨_, rfl⟩
  have HPP : Hid (LiP c sl l3 k 6 n s tq = PP) := hPP
  rw [hPP]
  clear hPP
  obtain ⟨W, hW⟩ : ∃ W, W = ((w.alloc (.cells #[.slice a0 l0 c0, .slice a1 l1 c1] 32)).alloc (.cells #[.string nm, .int .i64 ag, .int .i64 sl, .slice (some ⟨b, o, none⟩) l3 c3] 45)).alloc (.cells #[.int .i64 6, .int .i64 n, .string s, .int .i64 tq] 48) := ⟨_, rfl⟩
  have hA : Below w.heap.size w W := by rw [hW]; exact (((Below.refl _ _).alloc (Nat.le_refl _) _).alloc (by simp) _).alloc (by simp; omega) _
  obtain ⟨nA, nB, nC⟩ := heap_three w (.cells #[.slice a0 l0 c0, .slice a1 l1 c1] 32) (.cells #[.string nm, .int .i64 ag, .int .i64 sl, .slice (some ⟨b, o, none⟩) l3 c3] 45) (.cells #[.int .i64 6, .int .i64 n, .string s, .int .i64 tq] 48)
  rw [← hW] at nA nB nC
  have HA : Hid (Below w.heap.size w W) := hA
  have HCR : Hid (CodeR d W [.slice a0 l0 c0, .slice a1 l1 c1] c) := CodeR.lasts d _ _ _ _ hc hA
  have HWC : Hid (WfCode d c ∧ szCodeD d c ≤ 1048576) := ⟨hwc, hz⟩
  have hk' : (k : Int) < (l3 : Int) := by omega
  have hbl : b < w.heap.size := by have := World.block_lt_of_cell? w _ f0; simpa using this
  have hl1 : l1 ≤ 1048576 := by
    obtain ⟨w0, w1, e0, hF, hP⟩ := hc
    simp only [List.cons.injEq, and_true] at e0
    obtain ⟨rfl, rfl⟩ := e0
    obtain ⟨aa, cc, ee⟩ := hP.slice
    simp only [Value.slice.injEq] at ee
    have := szRow_len (szPatD d) c.Pats
    unfold szCodeD at hz
    omega
  have hVs : w.heap.size + 1 + 1 < W.heap.size := lt_row nC
  have x0 : W.cell? ⟨w.heap.size + 1 + 1, 0, none⟩ = some (.int .i64 6) := by rw [cell_of_row W _ 0 _ _ _ nC]; rfl
  have x1 : W.cell? ⟨w.heap.size + 1 + 1, 1, none⟩ = some (.int .i64 n) := by rw [cell_of_row W _ 1 _ _ _ nC]; rfl
  have x2 : W.cell? ⟨w.heap.size + 1 + 1, 2, none⟩ = some (.string s) := by rw [cell_of_row W _ 2 _ _ _ nC]; rfl
  have x3 : W.cell? ⟨w.heap.size + 1 + 1, 3, none⟩ = some (.int .i64 tq) := by rw [cell_of_row W _ 3 _ _ _ nC]; rfl
  have y2 : W.cell? ⟨w.heap.size + 1, 2, none⟩ = some (.int .i64 sl) := by rw [cell_of_row W _ 2 _ _ _ nB]; rfl
  have y3 : W.cell? ⟨w.heap.size + 1, 3, none⟩ = some (.slice (some ⟨b, o, none⟩) l3 c3) := by rw [cell_of_row W _ 3 _ _ _ nB]; rfl
  have z0 : W.cell? ⟨w.heap.size, 0, none⟩ = some (.slice a0 l0 c0) := by rw [cell_of_row W _ 0 _ _ _ nA]; rfl
  have z1 : W.cell? ⟨w.heap.size, 1, none⟩ = some (.slice a1 l1 c1) := by rw [cell_of_row W _ 1 _ _ _ nA]; rfl
  have hIN := in_call tq ((k : Int) + 1) ((l3 : Int) - 1) W
  clear hc hwc hz hA nA nB nC
  by_cases hse : s.size = 0
  · have he : s.toList.isEmpty = true := (empty_iff s).2 hse
    have HSE : Hid (s.size = 0) := hse
    clear hse
    rw [hW] at hIN
    go_enter Tryd.func50, Tryd.ntmps50
    go_wp2_with fail
    refine hIN.mono ?_
    clear hIN
    rintro e V ⟨b2, rfl, hb2, hV⟩
    rw [← hW] at hV
    subst hV
    have HB2 : Hid (b2 = true ↔ (k : Int) + 1 ≤ tq ∧ tq ≤ (l3 : Int) - 1) := hb2
    clear hb2 hW f0 f1 f2 f3
    by_cases ht0 : tq = 0
    case neg =>
      have HF : Hid (¬ PP) := by rw [← HPP.out]; rintro ⟨h, h2⟩; rw [insP6] at h; exact ht0 h.2.1
      have ht1 : (tq == 0) = false := by simp [ht0]
      clear ht0
      go_wp2_with fail
      go_ret
      exact bres_no HF.out HA.out
    have ht1 : (tq == 0) = true := by simp [ht0]
    have HTO : Hid (tq = 0) := ht0
    clear ht0
    have hC := in_call n 2 6 W
    go_wp2_with fail
    refine hC.mono ?_
    clear hC
    rintro e V ⟨b3, rfl, hb3, hV⟩
    subst hV
    have HF : Hid (b3 = true ↔ PP) := by
      rw [← HPP.out]
      constructor
      · intro h
        have := hb3.1 h
        exact ⟨by rw [insP6]; exact ⟨HSE.out, HTO.out, this.1, by omega⟩, fun e => by omega⟩
      · rintro ⟨h, _⟩
        rw [insP6] at h
        exact hb3.2 ⟨h.2.2.1, by have := h.2.2.2; omega⟩
    clear hb3
    go_wp2_with fail
    go_ret
    exact bres_is HF.out HA.out
  · have he : s.toList.isEmpty = false := empty_no hse
    have HSE : Hid (¬ s.size = 0) := hse
    clear hse hIN
    have HF : Hid (¬ PP) := by rw [← HPP.out]; rintro ⟨h, h2⟩; rw [insP6] at h; exact HSE.out h.1
    rw [hW] at HA
    go_enter Tryd.func50, Tryd.ntmps50
    go_wp2_with fail
    go_ret
    exact bres_no HF.out HA.out

set_option maxRecDepth 100000 in
set_option maxHeartbeats 4000000 in
theorem l9Ins_2 {d : Nat} (a0 : Option Addr) (l0 c0 : Nat) (a1 : Option Addr) (l1 c1 : Nat) (c : DCode d) (nm : ByteArray) (ag sl : Int) (b o l3 c3 k : Nat) (n : Int) (s : ByteArray) (tq : Int) (w : World)
    (hc : CodeR d w [.slice a0 l0 c0, .slice a1 l1 c1] c) (hwc : WfCode d c) (hz : szCodeD d c ≤ 1048576) (f0 : w.cell? ⟨b, o + k * 4, none⟩ = some (.int .i64 2)) (f1 : w.cell? ⟨b, o + k * 4 + 1, none⟩ = some (.int .i64 n)) (f2 : w.cell? ⟨b, o + k * 4 + 2, none⟩ = some (.string s)) (f3 : w.cell? ⟨b, o + k * 4 + 3, none⟩ = some (.int .i64 tq))
    (hk : k < l3) (hl3 : l3 ≤ 1048576) (hs : s.size ≤ 9223372036854775807) (hn : I64 n) (hsl0 : 0 ≤ sl) (hsl1 : sl ≤ 400) :
    Calls Tryd.prog 50 #[.agg #[.slice a0 l0 c0, .slice a1 l1 c1], .agg #[.string nm, .int .i64 ag, .int .i64 sl, .slice (some ⟨b, o, none⟩) l3 c3], .int .i64 k] w fun e w' => BRes (LiP c sl l3 k 2 n s tq) w e w' := by
  obtain ⟨PP, hPP⟩ : ∃ P : Prop, LiP c sl l3 k 2 n s tq = P := ⟨_, rfl⟩
  have HPP : Hid (LiP c sl l3 k 2 n s tq = PP) := hPP
  rw [hPP]
  clear hPP
  obtain ⟨W, hW⟩ : ∃ W, W = ((w.alloc (.cells #[.slice a0 l0 c0, .slice a1 l1 c1] 32)).alloc (.cells #[.string nm, .int .i64 ag, .int .i64 sl, .slice (some ⟨b, o, none⟩) l3 c3] 45)).alloc (.cells #[.int .i64 2, .int .i64 n, .string s, .int .i64 tq] 48) := ⟨_, rfl⟩
  have hA : Below w.heap.size w W := by rw [hW]; exact (((Below.refl _ _).alloc (Nat.le_refl _) _).alloc (by simp) _).alloc (by simp; omega) _
  obtain ⟨nA, nB, nC⟩ := heap_three w (.cells #[.slice a0 l0 c0, .slice a1 l1 c1] 32) (.cells #[.string nm, .int .i64 ag, .int .i64 sl, .slice (some ⟨b, o, none⟩) l3 c3] 45) (.cells #[.int .i64 2, .int .i64 n, .string s, .int .i64 tq] 48)
  rw [← hW] at nA nB nC
  have HA : Hid (Below w.heap.size w W) := hA
  have HCR : Hid (CodeR d W [.slice a0 l0 c0, .slice a1 l1 c1] c) := CodeR.lasts d _ _ _ _ hc hA
  have HWC : Hid (WfCode d c ∧ szCodeD d c ≤ 1048576) := ⟨hwc, hz⟩
  have hk' : (k : Int) < (l3 : Int) := by omega
  have hbl : b < w.heap.size := by have := World.block_lt_of_cell? w _ f0; simpa using this
  have hl1 : l1 ≤ 1048576 := by
    obtain ⟨w0, w1, e0, hF, hP⟩ := hc
    simp only [List.cons.injEq, and_true] at e0
    obtain ⟨rfl, rfl⟩ := e0
    obtain ⟨aa, cc, ee⟩ := hP.slice
    simp only [Value.slice.injEq] at ee
    have := szRow_len (szPatD d) c.Pats
    unfold szCodeD at hz
    omega
  have hVs : w.heap.size + 1 + 1 < W.heap.size := lt_row nC
  have x0 : W.cell? ⟨w.heap.size + 1 + 1, 0, none⟩ = some (.int .i64 2) := by rw [cell_of_row W _ 0 _ _ _ nC]; rfl
  have x1 : W.cell? ⟨w.heap.size + 1 + 1, 1, none⟩ = some (.int .i64 n) := by rw [cell_of_row W _ 1 _ _ _ nC]; rfl
  have x2 : W.cell? ⟨w.heap.size + 1 + 1, 2, none⟩ = some (.string s) := by rw [cell_of_row W _ 2 _ _ _ nC]; rfl
  have x3 : W.cell? ⟨w.heap.size + 1 + 1, 3, none⟩ = some (.int .i64 tq) := by rw [cell_of_row W _ 3 _ _ _ nC]; rfl
  have y2 : W.cell? ⟨w.heap.size + 1, 2, none⟩ = some (.int .i64 sl) := by rw [cell_of_row W _ 2 _ _ _ nB]; rfl
  have y3 : W.cell? ⟨w.heap.size + 1, 3, none⟩ = some (.slice (some ⟨b, o, none⟩) l3 c3) := by rw [cell_of_row W _ 3 _ _ _ nB]; rfl
  have z0 : W.cell? ⟨w.heap.size, 0, none⟩ = some (.slice a0 l0 c0) := by rw [cell_of_row W _ 0 _ _ _ nA]; rfl
  have z1 : W.cell? ⟨w.heap.size, 1, none⟩ = some (.slice a1 l1 c1) := by rw [cell_of_row W _ 1 _ _ _ nA]; rfl
  have hIN := in_call tq ((k : Int) + 1) ((l3 : Int) - 1) W
  clear hc hwc hz hA nA nB nC
  by_cases hse : s.size = 0
  · have he : s.toList.isEmpty = true := (empty_iff s).2 hse
    have HSE : Hid (s.size = 0) := hse
    clear hse
    rw [hW] at hIN
    go_enter Tryd.func50, Tryd.ntmps50
    go_wp2_with fail
    refine hIN.mono ?_
    clear hIN
    rintro e V ⟨b2, rfl, hb2, hV⟩
    rw [← hW] at hV
    subst hV
    have HB2 : Hid (b2 = true ↔ (k : Int) + 1 ≤ tq ∧ tq ≤ (l3 : Int) - 1) := hb2
    clear hb2 hW f0 f1 f2 f3
    have hC := l4Atom_any s W hs
    go_wp2_with fail
    refine hC.mono ?_
    clear hC
    rintro e V ⟨b, rfl, hb, hB⟩
    have HBV : Hid (Below w.heap.size w V) := HA.out.trans (hB.mono HA.out.size)
    have g1 : V.cell? ⟨w.heap.size + 1 + 1, 1, none⟩ = some (.int .i64 n) := cell_later hB x1
    have g3 : V.cell? ⟨w.heap.size + 1 + 1, 3, none⟩ = some (.int .i64 tq) := cell_later hB x3
    clear hB x0 x1 x2 x3 y2 y3 z0 z1
    cases b with
    | false =>
      have HF : Hid (¬ PP) := by rw [← HPP.out]; rintro ⟨h, h2⟩; rw [insP2] at h; have := hb.out.2 h.2.2; cases this
      clear hb
      go_wp2_with fail
      go_ret
      exact bres_no HF.out HBV.out
    | true =>
      have HR : Hid (AtomP s ∧ ¬ Wrd s) := hb.out.1 rfl
      clear hb
      by_cases hn0 : n = 0
      case neg =>
        have hn1 : (n == 0) = false := by simp [hn0]
        have HF : Hid (¬ PP) := by rw [← HPP.out]; rintro ⟨h, h2⟩; rw [insP2] at h; exact hn0 h.1
        clear hn0
        go_wp2_with fail
        go_ret
        exact bres_no HF.out HBV.out
      have hn1 : (n == 0) = true := by simp [hn0]
      by_cases ht0 : tq = 0
      case neg =>
        have ht1 : (tq == 0) = false := by simp [ht0]
        have HF : Hid (¬ PP) := by rw [← HPP.out]; rintro ⟨h, h2⟩; rw [insP2] at h; exact ht0 h.2.1
        clear ht0 hn0
        go_wp2_with fail
        go_ret
        exact bres_no HF.out HBV.out
      have ht1 : (tq == 0) = true := by simp [ht0]
      have HF : Hid PP := by rw [← HPP.out]; exact ⟨by rw [insP2]; exact ⟨hn0, ht0, HR.out⟩, fun e => by omega⟩
      clear ht0 hn0
      go_wp2_with fail
      go_ret
      exact bres_yes HF.out HBV.out
  · have he : s.toList.isEmpty = false := empty_no hse
    have HSE : Hid (¬ s.size = 0) := hse
    clear hse hIN
    have hC := l4Atom_any s W hs
    rw [hW] at hC
    go_enter Tryd.func50, Tryd.ntmps50
    go_wp2_with fail
    refine hC.mono ?_
    clear hC
    rintro e V ⟨b, rfl, hb, hB⟩
    rw [← hW] at hB
    have HBV : Hid (Below w.heap.size w V) := HA.out.trans (hB.mono HA.out.size)
    have g1 : V.cell? ⟨w.heap.size + 1 + 1, 1, none⟩ = some (.int .i64 n) := cell_later hB x1
    have g3 : V.cell? ⟨w.heap.size + 1 + 1, 3, none⟩ = some (.int .i64 tq) := cell_later hB x3
    clear hB x0 x1 x2 x3 y2 y3 z0 z1
    cases b with
    | false =>
      have HF : Hid (¬ PP) := by rw [← HPP.out]; rintro ⟨h, h2⟩; rw [insP2] at h; have := hb.out.2 h.2.2; cases this
      clear hb
      go_wp2_with fail
      go_ret
      exact bres_no HF.out HBV.out
    | true =>
      have HR : Hid (AtomP s ∧ ¬ Wrd s) := hb.out.1 rfl
      clear hb
      by_cases hn0 : n = 0
      case neg =>
        have hn1 : (n == 0) = false := by simp [hn0]
        have HF : Hid (¬ PP) := by rw [← HPP.out]; rintro ⟨h, h2⟩; rw [insP2] at h; exact hn0 h.1
        clear hn0
        go_wp2_with fail
        go_ret
        exact bres_no HF.out HBV.out
      have hn1 : (n == 0) = true := by simp [hn0]
      by_cases ht0 : tq = 0
      case neg =>
        have ht1 : (tq == 0) = false := by simp [ht0]
        have HF : Hid (¬ PP) := by rw [← HPP.out]; rintro ⟨h, h2⟩; rw [insP2] at h; exact ht0 h.2.1
        clear ht0 hn0
        go_wp2_with fail
        go_ret
        exact bres_no HF.out HBV.out
      have ht1 : (tq == 0) = true := by simp [ht0]
      have HF : Hid PP := by rw [← HPP.out]; exact ⟨by rw [insP2]; exact ⟨hn0, ht0, HR.out⟩, fun e => by omega⟩
      clear ht0 hn0
      go_wp2_with fail
      go_ret
      exact bres_yes HF.out HBV.out

set_option maxRecDepth 100000 in
set_option maxHeartbeats 4000000 in
theorem l9Ins_7 {d : Nat} (a0 : Option Addr) (l0 c0 : Nat) (a1 : Option Addr) (l1 c1 : Nat) (c : DCode d) (nm : ByteArray) (ag sl : Int) (b o l3 c3 k : Nat) (n : Int) (s : ByteArray) (tq : Int) (w : World)
    (hc : CodeR d w [.slice a0 l0 c0, .slice a1 l1 c1] c) (hwc : WfCode d c) (hz : szCodeD d c ≤ 1048576) (f0 : w.cell? ⟨b, o + k * 4, none⟩ = some (.int .i64 7)) (f1 : w.cell? ⟨b, o + k * 4 + 1, none⟩ = some (.int .i64 n)) (f2 : w.cell? ⟨b, o + k * 4 + 2, none⟩ = some (.string s)) (f3 : w.cell? ⟨b, o + k * 4 + 3, none⟩ = some (.int .i64 tq))
    (hk : k < l3) (hl3 : l3 ≤ 1048576) (hs : s.size ≤ 9223372036854775807) (hn : I64 n) (hsl0 : 0 ≤ sl) (hsl1 : sl ≤ 400) :
    Calls Tryd.prog 50 #[.agg #[.slice a0 l0 c0, .slice a1 l1 c1], .agg #[.string nm, .int .i64 ag, .int .i64 sl, .slice (some ⟨b, o, none⟩) l3 c3], .int .i64 k] w fun e w' => BRes (LiP c sl l3 k 7 n s tq) w e w' := by
  obtain ⟨PP, hPP⟩ : ∃ P : Prop, LiP c sl l3 k 7 n s tq = P := ⟨_, rfl⟩
  have HPP : Hid (LiP c sl l3 k 7 n s tq = PP) := hPP
  rw [hPP]
  clear hPP
  obtain ⟨W, hW⟩ : ∃ W, W = ((w.alloc (.cells #[.slice a0 l0 c0, .slice a1 l1 c1] 32)).alloc (.cells #[.string nm, .int .i64 ag, .int .i64 sl, .slice (some ⟨b, o, none⟩) l3 c3] 45)).alloc (.cells #[.int .i64 7, .int .i64 n, .string s, .int .i64 tq] 48) := ⟨_, rfl⟩
  have hA : Below w.heap.size w W := by rw [hW]; exact (((Below.refl _ _).alloc (Nat.le_refl _) _).alloc (by simp) _).alloc (by simp; omega) _
  obtain ⟨nA, nB, nC⟩ := heap_three w (.cells #[.slice a0 l0 c0, .slice a1 l1 c1] 32) (.cells #[.string nm, .int .i64 ag, .int .i64 sl, .slice (some ⟨b, o, none⟩) l3 c3] 45) (.cells #[.int .i64 7, .int .i64 n, .string s, .int .i64 tq] 48)
  rw [← hW] at nA nB nC
  have HA : Hid (Below w.heap.size w W) := hA
  have HCR : Hid (CodeR d W [.slice a0 l0 c0, .slice a1 l1 c1] c) := CodeR.lasts d _ _ _ _ hc hA
  have HWC : Hid (WfCode d c ∧ szCodeD d c ≤ 1048576) := ⟨hwc, hz⟩
  have hk' : (k : Int) < (l3 : Int) := by omega
  have hbl : b < w.heap.size := by have := World.block_lt_of_cell? w _ f0; simpa using this
  have hl1 : l1 ≤ 1048576 := by
    obtain ⟨w0, w1, e0, hF, hP⟩ := hc
    simp only [List.cons.injEq, and_true] at e0
    obtain ⟨rfl, rfl⟩ := e0
    obtain ⟨aa, cc, ee⟩ := hP.slice
    simp only [Value.slice.injEq] at ee
    have := szRow_len (szPatD d) c.Pats
    unfold szCodeD at hz
    omega
  have hVs : w.heap.size + 1 + 1 < W.heap.size := lt_row nC
  have x0 : W.cell? ⟨w.heap.size + 1 + 1, 0, none⟩ = some (.int .i64 7) := by rw [cell_of_row W _ 0 _ _ _ nC]; rfl
  have x1 : W.cell? ⟨w.heap.size + 1 + 1, 1, none⟩ = some (.int .i64 n) := by rw [cell_of_row W _ 1 _ _ _ nC]; rfl
  have x2 : W.cell? ⟨w.heap.size + 1 + 1, 2, none⟩ = some (.string s) := by rw [cell_of_row W _ 2 _ _ _ nC]; rfl
  have x3 : W.cell? ⟨w.heap.size + 1 + 1, 3, none⟩ = some (.int .i64 tq) := by rw [cell_of_row W _ 3 _ _ _ nC]; rfl
  have y2 : W.cell? ⟨w.heap.size + 1, 2, none⟩ = some (.int .i64 sl) := by rw [cell_of_row W _ 2 _ _ _ nB]; rfl
  have y3 : W.cell? ⟨w.heap.size + 1, 3, none⟩ = some (.slice (some ⟨b, o, none⟩) l3 c3) := by rw [cell_of_row W _ 3 _ _ _ nB]; rfl
  have z0 : W.cell? ⟨w.heap.size, 0, none⟩ = some (.slice a0 l0 c0) := by rw [cell_of_row W _ 0 _ _ _ nA]; rfl
  have z1 : W.cell? ⟨w.heap.size, 1, none⟩ = some (.slice a1 l1 c1) := by rw [cell_of_row W _ 1 _ _ _ nA]; rfl
  have hIN := in_call tq ((k : Int) + 1) ((l3 : Int) - 1) W
  clear hc hwc hz hA nA nB nC
  by_cases hse : s.size = 0
  · have he : s.toList.isEmpty = true := (empty_iff s).2 hse
    have HSE : Hid (s.size = 0) := hse
    clear hse
    rw [hW] at hIN
    go_enter Tryd.func50, Tryd.ntmps50
    go_wp2_with fail
    refine hIN.mono ?_
    clear hIN
    rintro e V ⟨b2, rfl, hb2, hV⟩
    rw [← hW] at hV
    subst hV
    have HB2 : Hid (b2 = true ↔ (k : Int) + 1 ≤ tq ∧ tq ≤ (l3 : Int) - 1) := hb2
    clear hb2 hW f0 f1 f2 f3
    have hC := l4Op_any s W
    go_wp2_with fail
    refine hC.mono ?_
    clear hC
    rintro e V ⟨b, rfl, hb, hV⟩
    have hB : Below W.heap.size W V := by rw [← hV]; exact Below.refl _ _
    clear hV
    have HBV : Hid (Below w.heap.size w V) := HA.out.trans (hB.mono HA.out.size)
    have g1 : V.cell? ⟨w.heap.size + 1 + 1, 1, none⟩ = some (.int .i64 n) := cell_later hB x1
    have g3 : V.cell? ⟨w.heap.size + 1 + 1, 3, none⟩ = some (.int .i64 tq) := cell_later hB x3
    clear hB x0 x1 x2 x3 y2 y3 z0 z1
    cases b with
    | false =>
      have HF : Hid (¬ PP) := by rw [← HPP.out]; rintro ⟨h, h2⟩; rw [insP7] at h; have := hb.out.2 h.2.2; cases this
      clear hb
      go_wp2_with fail
      go_ret
      exact bres_no HF.out HBV.out
    | true =>
      have HR : Hid (OpP s) := hb.out.1 rfl
      clear hb
      by_cases hn0 : n = 0
      case neg =>
        have hn1 : (n == 0) = false := by simp [hn0]
        have HF : Hid (¬ PP) := by rw [← HPP.out]; rintro ⟨h, h2⟩; rw [insP7] at h; exact hn0 h.1
        clear hn0
        go_wp2_with fail
        go_ret
        exact bres_no HF.out HBV.out
      have hn1 : (n == 0) = true := by simp [hn0]
      by_cases ht0 : tq = 0
      case neg =>
        have ht1 : (tq == 0) = false := by simp [ht0]
        have HF : Hid (¬ PP) := by rw [← HPP.out]; rintro ⟨h, h2⟩; rw [insP7] at h; exact ht0 h.2.1
        clear ht0 hn0
        go_wp2_with fail
        go_ret
        exact bres_no HF.out HBV.out
      have ht1 : (tq == 0) = true := by simp [ht0]
      have HF : Hid PP := by rw [← HPP.out]; exact ⟨by rw [insP7]; exact ⟨hn0, ht0, HR.out⟩, fun e => by omega⟩
      clear ht0 hn0
      go_wp2_with fail
      go_ret
      exact bres_yes HF.out HBV.out
  · have he : s.toList.isEmpty = false := empty_no hse
    have HSE : Hid (¬ s.size = 0) := hse
    clear hse hIN
    have hC := l4Op_any s W
    rw [hW] at hC
    go_enter Tryd.func50, Tryd.ntmps50
    go_wp2_with fail
    refine hC.mono ?_
    clear hC
    rintro e V ⟨b, rfl, hb, hV⟩
    rw [← hW] at hV
    have hB : Below W.heap.size W V := by rw [← hV]; exact Below.refl _ _
    clear hV
    have HBV : Hid (Below w.heap.size w V) := HA.out.trans (hB.mono HA.out.size)
    have g1 : V.cell? ⟨w.heap.size + 1 + 1, 1, none⟩ = some (.int .i64 n) := cell_later hB x1
    have g3 : V.cell? ⟨w.heap.size + 1 + 1, 3, none⟩ = some (.int .i64 tq) := cell_later hB x3
    clear hB x0 x1 x2 x3 y2 y3 z0 z1
    cases b with
    | false =>
      have HF : Hid (¬ PP) := by rw [← HPP.out]; rintro ⟨h, h2⟩; rw [insP7] at h; have := hb.out.2 h.2.2; cases this
      clear hb
      go_wp2_with fail
      go_ret
      exact bres_no HF.out HBV.out
    | true =>
      have HR : Hid (OpP s) := hb.out.1 rfl
      clear hb
      by_cases hn0 : n = 0
      case neg =>
        have hn1 : (n == 0) = false := by simp [hn0]
        have HF : Hid (¬ PP) := by rw [← HPP.out]; rintro ⟨h, h2⟩; rw [insP7] at h; exact hn0 h.1
        clear hn0
        go_wp2_with fail
        go_ret
        exact bres_no HF.out HBV.out
      have hn1 : (n == 0) = true := by simp [hn0]
      by_cases ht0 : tq = 0
      case neg =>
        have ht1 : (tq == 0) = false := by simp [ht0]
        have HF : Hid (¬ PP) := by rw [← HPP.out]; rintro ⟨h, h2⟩; rw [insP7] at h; exact ht0 h.2.1
        clear ht0 hn0
        go_wp2_with fail
        go_ret
        exact bres_no HF.out HBV.out
      have ht1 : (tq == 0) = true := by simp [ht0]
      have HF : Hid PP := by rw [← HPP.out]; exact ⟨by rw [insP7]; exact ⟨hn0, ht0, HR.out⟩, fun e => by omega⟩
      clear ht0 hn0
      go_wp2_with fail
      go_ret
      exact bres_yes HF.out HBV.out

set_option maxRecDepth 100000 in
set_option maxHeartbeats 4000000 in
theorem l9Ins_8 {d : Nat} (a0 : Option Addr) (l0 c0 : Nat) (a1 : Option Addr) (l1 c1 : Nat) (c : DCode d) (nm : ByteArray) (ag sl : Int) (b o l3 c3 k : Nat) (n : Int) (s : ByteArray) (tq : Int) (w : World)
    (hc : CodeR d w [.slice a0 l0 c0, .slice a1 l1 c1] c) (hwc : WfCode d c) (hz : szCodeD d c ≤ 1048576) (f0 : w.cell? ⟨b, o + k * 4, none⟩ = some (.int .i64 8)) (f1 : w.cell? ⟨b, o + k * 4 + 1, none⟩ = some (.int .i64 n)) (f2 : w.cell? ⟨b, o + k * 4 + 2, none⟩ = some (.string s)) (f3 : w.cell? ⟨b, o + k * 4 + 3, none⟩ = some (.int .i64 tq))
    (hk : k < l3) (hl3 : l3 ≤ 1048576) (hs : s.size ≤ 9223372036854775807) (hn : I64 n) (hsl0 : 0 ≤ sl) (hsl1 : sl ≤ 400) :
    Calls Tryd.prog 50 #[.agg #[.slice a0 l0 c0, .slice a1 l1 c1], .agg #[.string nm, .int .i64 ag, .int .i64 sl, .slice (some ⟨b, o, none⟩) l3 c3], .int .i64 k] w fun e w' => BRes (LiP c sl l3 k 8 n s tq) w e w' := by
  obtain ⟨PP, hPP⟩ : ∃ P : Prop, LiP c sl l3 k 8 n s tq = P := ⟨_, rfl⟩
  have HPP : Hid (LiP c sl l3 k 8 n s tq = PP) := hPP
  rw [hPP]
  clear hPP
  obtain ⟨W, hW⟩ : ∃ W, W = ((w.alloc (.cells #[.slice a0 l0 c0, .slice a1 l1 c1] 32)).alloc (.cells #[.string nm, .int .i64 ag, .int .i64 sl, .slice (some ⟨b, o, none⟩) l3 c3] 45)).alloc (.cells #[.int .i64 8, .int .i64 n, .string s, .int .i64 tq] 48) := ⟨_, rfl⟩
  have hA : Below w.heap.size w W := by rw [hW]; exact (((Below.refl _ _).alloc (Nat.le_refl _) _).alloc (by simp) _).alloc (by simp; omega) _
  obtain ⟨nA, nB, nC⟩ := heap_three w (.cells #[.slice a0 l0 c0, .slice a1 l1 c1] 32) (.cells #[.string nm, .int .i64 ag, .int .i64 sl, .slice (some ⟨b, o, none⟩) l3 c3] 45) (.cells #[.int .i64 8, .int .i64 n, .string s, .int .i64 tq] 48)
  rw [← hW] at nA nB nC
  have HA : Hid (Below w.heap.size w W) := hA
  have HCR : Hid (CodeR d W [.slice a0 l0 c0, .slice a1 l1 c1] c) := CodeR.lasts d _ _ _ _ hc hA
  have HWC : Hid (WfCode d c ∧ szCodeD d c ≤ 1048576) := ⟨hwc, hz⟩
  have hk' : (k : Int) < (l3 : Int) := by omega
  have hbl : b < w.heap.size := by have := World.block_lt_of_cell? w _ f0; simpa using this
  have hl1 : l1 ≤ 1048576 := by
    obtain ⟨w0, w1, e0, hF, hP⟩ := hc
    simp only [List.cons.injEq, and_true] at e0
    obtain ⟨rfl, rfl⟩ := e0
    obtain ⟨aa, cc, ee⟩ := hP.slice
    simp only [Value.slice.injEq] at ee
    have := szRow_len (szPatD d) c.Pats
    unfold szCodeD at hz
    omega
  have hVs : w.heap.size + 1 + 1 < W.heap.size := lt_row nC
  have x0 : W.cell? ⟨w.heap.size + 1 + 1, 0, none⟩ = some (.int .i64 8) := by rw [cell_of_row W _ 0 _ _ _ nC]; rfl
  have x1 : W.cell? ⟨w.heap.size + 1 + 1, 1, none⟩ = some (.int .i64 n) := by rw [cell_of_row W _ 1 _ _ _ nC]; rfl
  have x2 : W.cell? ⟨w.heap.size + 1 + 1, 2, none⟩ = some (.string s) := by rw [cell_of_row W _ 2 _ _ _ nC]; rfl
  have x3 : W.cell? ⟨w.heap.size + 1 + 1, 3, none⟩ = some (.int .i64 tq) := by rw [cell_of_row W _ 3 _ _ _ nC]; rfl
  have y2 : W.cell? ⟨w.heap.size + 1, 2, none⟩ = some (.int .i64 sl) := by rw [cell_of_row W _ 2 _ _ _ nB]; rfl
  have y3 : W.cell? ⟨w.heap.size + 1, 3, none⟩ = some (.slice (some ⟨b, o, none⟩) l3 c3) := by rw [cell_of_row W _ 3 _ _ _ nB]; rfl
  have z0 : W.cell? ⟨w.heap.size, 0, none⟩ = some (.slice a0 l0 c0) := by rw [cell_of_row W _ 0 _ _ _ nA]; rfl
  have z1 : W.cell? ⟨w.heap.size, 1, none⟩ = some (.slice a1 l1 c1) := by rw [cell_of_row W _ 1 _ _ _ nA]; rfl
  have hIN := in_call tq ((k : Int) + 1) ((l3 : Int) - 1) W
  clear hc hwc hz hA nA nB nC
  by_cases hse : s.size = 0
  · have he : s.toList.isEmpty = true := (empty_iff s).2 hse
    have HSE : Hid (s.size = 0) := hse
    clear hse
    rw [hW] at hIN
    go_enter Tryd.func50, Tryd.ntmps50
    go_wp2_with fail
    refine hIN.mono ?_
    clear hIN
    rintro e V ⟨b2, rfl, hb2, hV⟩
    rw [← hW] at hV
    subst hV
    have HB2 : Hid (b2 = true ↔ (k : Int) + 1 ≤ tq ∧ tq ≤ (l3 : Int) - 1) := hb2
    clear hb2 hW f0 f1 f2 f3
    obtain ⟨w0, w1, e0, hF, hP⟩ := HCR.out
    simp only [List.cons.injEq, and_true] at e0
    obtain ⟨rfl, rfl⟩ := e0
    obtain ⟨aa, cc, ee⟩ := hF.slice
    simp only [Value.slice.injEq] at ee
    obtain ⟨-, el, -⟩ := ee
    have HLN : Hid (c.Fns.length = l0 ∧ l0 ≤ 1048576) := ⟨el.symm, by have := szRow_len szFnD c.Fns; have := HWC.out.2; unfold szCodeD at this; omega⟩
    have hC := l9FnAt_any (.slice a0 l0 c0) (.slice a1 l1 c1) c.Fns s W hF (by have := HLN.out; omega)
    have HFR : Hid (∀ X : World, Below W.heap.size W X → RowOf 4 FnR X (.slice a0 l0 c0) c.Fns) := fun X hX => hF.later FnR.lasts hX
    clear hF hP el
    go_wp2_with fail
    refine hC.mono ?_
    clear hC
    rintro e V2 ⟨rfl, hB2⟩
    have HB3 : Hid (Below w.heap.size w V2) := HA.out.trans (hB2.mono HA.out.size)
    have x1' : V2.cell? ⟨w.heap.size + 1 + 1, 1, none⟩ = some (.int .i64 n) := cell_later hB2 x1
    have x3' : V2.cell? ⟨w.heap.size + 1 + 1, 3, none⟩ = some (.int .i64 tq) := cell_later hB2 x3
    have z0' : V2.cell? ⟨w.heap.size, 0, none⟩ = some (.slice a0 l0 c0) := cell_later hB2 z0
    have HFR2 : Hid (RowOf 4 FnR V2 (.slice a0 l0 c0) c.Fns) := HFR.out V2 hB2
    clear hB2 x0 x1 x2 x3 y2 y3 z0 z1 HFR HCR hVs
    go_wp2_with fail
    have hn0 := After.some V2
    have p0 := After.cell x1'
    have p1 := After.cell z0'
    have p3 := After.cell x3'
    rcases fidx_cases (fun f : DFn => decide (f.Name = s)) c.Fns with ⟨q1, q2⟩ | ⟨i, x, q1, q2, q3, q4⟩
    · have e1 : fnIx c.Fns s = -1 := q1
      rw [e1]
      have HF : Hid (¬ PP) := by
        rw [← HPP.out]
        rintro ⟨h, _⟩
        rw [insP8] at h
        obtain ⟨k, f, r1, _⟩ := h.2
        rw [e1] at r1
        omega
      clear q1 q2 e1
      refine wp_region_after (by kernel_rfl) (by kernel_rfl) ?_
      repeat (go_big_quiet_step (fail))
      refine wpQuiet_nil ?_
      rintro _ ⟨nq, rfl⟩
      have HB4 : Hid (Below w.heap.size w nq.now) := HB3.out.trans (nq.bel.mono HB3.out.size)
      go_wp2_with fail
      go_ret
      exact bres_no HF.out HB4.out
    · have e1 : fnIx c.Fns s = i := q1
      rw [e1]
      obtain ⟨bb, oo, a3, cc3, rfl, g0, g1, g2, g3, _⟩ := Fn_at HFR2.out i x q2
      have hkl : i < l0 := by have := (List.getElem?_eq_some_iff.1 q2).1; have := HLN.out; omega
      have hkl' : (i : Int) < (l0 : Int) := by omega
      have hk0 : (0 : Int) ≤ (i : Int) := by omega
      have hl0 : l0 ≤ 1048576 := HLN.out.2
      have p2 := After.cell g1
      by_cases hx : x.Args = n
      · have hx' : (x.Args == n) = true := by simp [hx]
        by_cases ht0 : tq = 0
        · have ht1 : (tq == 0) = true := by simp [ht0]
          have HF : Hid PP := by rw [← HPP.out]; exact ⟨by rw [insP8]; exact ⟨ht0, i, x, e1, q2, hx⟩, fun e => by omega⟩
          clear q1 q2 q3 q4 e1 hx g0 g1 g2 g3 ht0
          refine wp_region_after (by kernel_rfl) (by kernel_rfl) ?_
          repeat (go_big_quiet_step (fail))
          refine wpQuiet_nil ?_
          rintro _ ⟨nq, rfl⟩
          have HB4 : Hid (Below w.heap.size w nq.now) := HB3.out.trans (nq.bel.mono HB3.out.size)
          go_wp2_with fail
          go_ret
          exact bres_yes HF.out HB4.out
        · have ht1 : (tq == 0) = false := by simp [ht0]
          have HF : Hid (¬ PP) := by rw [← HPP.out]; rintro ⟨h, _⟩; rw [insP8] at h; exact ht0 h.1
          clear q1 q2 q3 q4 e1 hx g0 g1 g2 g3 ht0
          refine wp_region_after (by kernel_rfl) (by kernel_rfl) ?_
          repeat (go_big_quiet_step (fail))
          refine wpQuiet_nil ?_
          rintro _ ⟨nq, rfl⟩
          have HB4 : Hid (Below w.heap.size w nq.now) := HB3.out.trans (nq.bel.mono HB3.out.size)
          go_wp2_with fail
          go_ret
          exact bres_no HF.out HB4.out
      · have hx' : (x.Args == n) = false := by simp [hx]
        have HF : Hid (¬ PP) := by
          rw [← HPP.out]
          rintro ⟨h, _⟩
          rw [insP8] at h
          obtain ⟨k', f, r1, r2, r3⟩ := h.2
          rw [e1] at r1
          obtain rfl : i = k' := by omega
          rw [q2] at r2
          cases r2
          exact hx r3
        clear q1 q2 q3 q4 e1 hx g0 g1 g2 g3
        refine wp_region_after (by kernel_rfl) (by kernel_rfl) ?_
        repeat (go_big_quiet_step (fail))
        refine wpQuiet_nil ?_
        rintro _ ⟨nq, rfl⟩
        have HB4 : Hid (Below w.heap.size w nq.now) := HB3.out.trans (nq.bel.mono HB3.out.size)
        go_wp2_with fail
        go_ret
        exact bres_no HF.out HB4.out
  · have he : s.toList.isEmpty = false := empty_no hse
    have HSE : Hid (¬ s.size = 0) := hse
    clear hse hIN
    obtain ⟨w0, w1, e0, hF, hP⟩ := HCR.out
    simp only [List.cons.injEq, and_true] at e0
    obtain ⟨rfl, rfl⟩ := e0
    obtain ⟨aa, cc, ee⟩ := hF.slice
    simp only [Value.slice.injEq] at ee
    obtain ⟨-, el, -⟩ := ee
    have HLN : Hid (c.Fns.length = l0 ∧ l0 ≤ 1048576) := ⟨el.symm, by have := szRow_len szFnD c.Fns; have := HWC.out.2; unfold szCodeD at this; omega⟩
    have hC := l9FnAt_any (.slice a0 l0 c0) (.slice a1 l1 c1) c.Fns s W hF (by have := HLN.out; omega)
    have HFR : Hid (∀ X : World, Below W.heap.size W X → RowOf 4 FnR X (.slice a0 l0 c0) c.Fns) := fun X hX => hF.later FnR.lasts hX
    clear hF hP el
    rw [hW] at hC
    go_enter Tryd.func50, Tryd.ntmps50
    go_wp2_with fail
    refine hC.mono ?_
    clear hC
    rintro e V2 ⟨rfl, hB2⟩
    rw [← hW] at hB2
    have HB3 : Hid (Below w.heap.size w V2) := HA.out.trans (hB2.mono HA.out.size)
    have x1' : V2.cell? ⟨w.heap.size + 1 + 1, 1, none⟩ = some (.int .i64 n) := cell_later hB2 x1
    have x3' : V2.cell? ⟨w.heap.size + 1 + 1, 3, none⟩ = some (.int .i64 tq) := cell_later hB2 x3
    have z0' : V2.cell? ⟨w.heap.size, 0, none⟩ = some (.slice a0 l0 c0) := cell_later hB2 z0
    have HFR2 : Hid (RowOf 4 FnR V2 (.slice a0 l0 c0) c.Fns) := HFR.out V2 hB2
    clear hB2 x0 x1 x2 x3 y2 y3 z0 z1 HFR HCR hVs
    go_wp2_with fail
    have hn0 := After.some V2
    have p0 := After.cell x1'
    have p1 := After.cell z0'
    have p3 := After.cell x3'
    rcases fidx_cases (fun f : DFn => decide (f.Name = s)) c.Fns with ⟨q1, q2⟩ | ⟨i, x, q1, q2, q3, q4⟩
    · have e1 : fnIx c.Fns s = -1 := q1
      rw [e1]
      have HF : Hid (¬ PP) := by
        rw [← HPP.out]
        rintro ⟨h, _⟩
        rw [insP8] at h
        obtain ⟨k, f, r1, _⟩ := h.2
        rw [e1] at r1
        omega
      clear q1 q2 e1
      refine wp_region_after (by kernel_rfl) (by kernel_rfl) ?_
      repeat (go_big_quiet_step (fail))
      refine wpQuiet_nil ?_
      rintro _ ⟨nq, rfl⟩
      have HB4 : Hid (Below w.heap.size w nq.now) := HB3.out.trans (nq.bel.mono HB3.out.size)
      go_wp2_with fail
      go_ret
      exact bres_no HF.out HB4.out
    · have e1 : fnIx c.Fns s = i := q1
      rw [e1]
      obtain ⟨bb, oo, a3, cc3, rfl, g0, g1, g2, g3, _⟩ := Fn_at HFR2.out i x q2
      have hkl : i < l0 := by have := (List.getElem?_eq_some_iff.1 q2).1; have := HLN.out; omega
      have hkl' : (i : Int) < (l0 : Int) := by omega
      have hk0 : (0 : Int) ≤ (i : Int) := by omega
      have hl0 : l0 ≤ 1048576 := HLN.out.2
      have p2 := After.cell g1
      by_cases hx : x.Args = n
      · have hx' : (x.Args == n) = true := by simp [hx]
        by_cases ht0 : tq = 0
        · have ht1 : (tq == 0) = true := by simp [ht0]
          have HF : Hid PP := by rw [← HPP.out]; exact ⟨by rw [insP8]; exact ⟨ht0, i, x, e1, q2, hx⟩, fun e => by omega⟩
          clear q1 q2 q3 q4 e1 hx g0 g1 g2 g3 ht0
          refine wp_region_after (by kernel_rfl) (by kernel_rfl) ?_
          repeat (go_big_quiet_step (fail))
          refine wpQuiet_nil ?_
          rintro _ ⟨nq, rfl⟩
          have HB4 : Hid (Below w.heap.size w nq.now) := HB3.out.trans (nq.bel.mono HB3.out.size)
          go_wp2_with fail
          go_ret
          exact bres_yes HF.out HB4.out
        · have ht1 : (tq == 0) = false := by simp [ht0]
          have HF : Hid (¬ PP) := by rw [← HPP.out]; rintro ⟨h, _⟩; rw [insP8] at h; exact ht0 h.1
          clear q1 q2 q3 q4 e1 hx g0 g1 g2 g3 ht0
          refine wp_region_after (by kernel_rfl) (by kernel_rfl) ?_
          repeat (go_big_quiet_step (fail))
          refine wpQuiet_nil ?_
          rintro _ ⟨nq, rfl⟩
          have HB4 : Hid (Below w.heap.size w nq.now) := HB3.out.trans (nq.bel.mono HB3.out.size)
          go_wp2_with fail
          go_ret
          exact bres_no HF.out HB4.out
      · have hx' : (x.Args == n) = false := by simp [hx]
        have HF : Hid (¬ PP) := by
          rw [← HPP.out]
          rintro ⟨h, _⟩
          rw [insP8] at h
          obtain ⟨k', f, r1, r2, r3⟩ := h.2
          rw [e1] at r1
          obtain rfl : i = k' := by omega
          rw [q2] at r2
          cases r2
          exact hx r3
        clear q1 q2 q3 q4 e1 hx g0 g1 g2 g3
        refine wp_region_after (by kernel_rfl) (by kernel_rfl) ?_
        repeat (go_big_quiet_step (fail))
        refine wpQuiet_nil ?_
        rintro _ ⟨nq, rfl⟩
        have HB4 : Hid (Below w.heap.size w nq.now) := HB3.out.trans (nq.bel.mono HB3.out.size)
        go_wp2_with fail
        go_ret
        exact bres_no HF.out HB4.out

set_option maxRecDepth 100000 in
set_option maxHeartbeats 4000000 in
theorem l9Ins_9 {d : Nat} (a0 : Option Addr) (l0 c0 : Nat) (a1 : Option Addr) (l1 c1 : Nat) (c : DCode d) (nm : ByteArray) (ag sl : Int) (b o l3 c3 k : Nat) (n : Int) (s : ByteArray) (tq : Int) (w : World)
    (hc : CodeR d w [.slice a0 l0 c0, .slice a1 l1 c1] c) (hwc : WfCode d c) (hz : szCodeD d c ≤ 1048576) (f0 : w.cell? ⟨b, o + k * 4, none⟩ = some (.int .i64 9)) (f1 : w.cell? ⟨b, o + k * 4 + 1, none⟩ = some (.int .i64 n)) (f2 : w.cell? ⟨b, o + k * 4 + 2, none⟩ = some (.string s)) (f3 : w.cell? ⟨b, o + k * 4 + 3, none⟩ = some (.int .i64 tq))
    (hk : k < l3) (hl3 : l3 ≤ 1048576) (hs : s.size ≤ 9223372036854775807) (hn : I64 n) (hsl0 : 0 ≤ sl) (hsl1 : sl ≤ 400) :
    Calls Tryd.prog 50 #[.agg #[.slice a0 l0 c0, .slice a1 l1 c1], .agg #[.string nm, .int .i64 ag, .int .i64 sl, .slice (some ⟨b, o, none⟩) l3 c3], .int .i64 k] w fun e w' => BRes (LiP c sl l3 k 9 n s tq) w e w' := by
  obtain ⟨PP, hPP⟩ : ∃ P : Prop, LiP c sl l3 k 9 n s tq = P := ⟨_, rfl⟩
  have HPP : Hid (LiP c sl l3 k 9 n s tq = PP) := hPP
  rw [hPP]
  clear hPP
  obtain ⟨W, hW⟩ : ∃ W, W = ((w.alloc (.cells #[.slice a0 l0 c0, .slice a1 l1 c1] 32)).alloc (.cells #[.string nm, .int .i64 ag, .int .i64 sl, .slice (some ⟨b, o, none⟩) l3 c3] 45)).alloc (.cells #[.int .i64 9, .int .i64 n, .string s, .int .i64 tq] 48) := ⟨_, rfl⟩
  have hA : Below w.heap.size w W := by rw [hW]; exact (((Below.refl _ _).alloc (Nat.le_refl _) _).alloc (by simp) _).alloc (by simp; omega) _
  obtain ⟨nA, nB, nC⟩ := heap_three w (.cells #[.slice a0 l0 c0, .slice a1 l1 c1] 32) (.cells #[.string nm, .int .i64 ag, .int .i64 sl, .slice (some ⟨b, o, none⟩) l3 c3] 45) (.cells #[.int .i64 9, .int .i64 n, .string s, .int .i64 tq] 48)
  rw [← hW] at nA nB nC
  have HA : Hid (Below w.heap.size w W) := hA
  have HCR : Hid (CodeR d W [.slice a0 l0 c0, .slice a1 l1 c1] c) := CodeR.lasts d _ _ _ _ hc hA
  have HWC : Hid (WfCode d c ∧ szCodeD d c ≤ 1048576) := ⟨hwc, hz⟩
  have hk' : (k : Int) < (l3 : Int) := by omega
  have hbl : b < w.heap.size := by have := World.block_lt_of_cell? w _ f0; simpa using this
  have hl1 : l1 ≤ 1048576 := by
    obtain ⟨w0, w1, e0, hF, hP⟩ := hc
    simp only [List.cons.injEq, and_true] at e0
    obtain ⟨rfl, rfl⟩ := e0
    obtain ⟨aa, cc, ee⟩ := hP.slice
    simp only [Value.slice.injEq] at ee
    have := szRow_len (szPatD d) c.Pats
    unfold szCodeD at hz
    omega
  have hVs : w.heap.size + 1 + 1 < W.heap.size := lt_row nC
  have x0 : W.cell? ⟨w.heap.size + 1 + 1, 0, none⟩ = some (.int .i64 9) := by rw [cell_of_row W _ 0 _ _ _ nC]; rfl
  have x1 : W.cell? ⟨w.heap.size + 1 + 1, 1, none⟩ = some (.int .i64 n) := by rw [cell_of_row W _ 1 _ _ _ nC]; rfl
  have x2 : W.cell? ⟨w.heap.size + 1 + 1, 2, none⟩ = some (.string s) := by rw [cell_of_row W _ 2 _ _ _ nC]; rfl
  have x3 : W.cell? ⟨w.heap.size + 1 + 1, 3, none⟩ = some (.int .i64 tq) := by rw [cell_of_row W _ 3 _ _ _ nC]; rfl
  have y2 : W.cell? ⟨w.heap.size + 1, 2, none⟩ = some (.int .i64 sl) := by rw [cell_of_row W _ 2 _ _ _ nB]; rfl
  have y3 : W.cell? ⟨w.heap.size + 1, 3, none⟩ = some (.slice (some ⟨b, o, none⟩) l3 c3) := by rw [cell_of_row W _ 3 _ _ _ nB]; rfl
  have z0 : W.cell? ⟨w.heap.size, 0, none⟩ = some (.slice a0 l0 c0) := by rw [cell_of_row W _ 0 _ _ _ nA]; rfl
  have z1 : W.cell? ⟨w.heap.size, 1, none⟩ = some (.slice a1 l1 c1) := by rw [cell_of_row W _ 1 _ _ _ nA]; rfl
  have hIN := in_call tq ((k : Int) + 1) ((l3 : Int) - 1) W
  clear hc hwc hz hA nA nB nC
  by_cases hse : s.size = 0
  · have he : s.toList.isEmpty = true := (empty_iff s).2 hse
    have HSE : Hid (s.size = 0) := hse
    clear hse
    rw [hW] at hIN
    go_enter Tryd.func50, Tryd.ntmps50
    go_wp2_with fail
    refine hIN.mono ?_
    clear hIN
    rintro e V ⟨b2, rfl, hb2, hV⟩
    rw [← hW] at hV
    subst hV
    have HB2 : Hid (b2 = true ↔ (k : Int) + 1 ≤ tq ∧ tq ≤ (l3 : Int) - 1) := hb2
    clear hb2 hW f0 f1 f2 f3
    go_wp2_with fail
    have hn0 := After.some W
    have p0 := After.cell x1
    have p1 := After.cell z1
    have p2 := After.cell y2
    cases b2 with
    | false =>
      have HF : Hid (¬ PP) := by rw [← HPP.out]; rintro ⟨h, h2⟩; have := HB2.out.2 (h2 (.inl rfl)); cases this
      clear x0 x1 x2 x3 y2 y3 z0 z1
      refine wp_region_after (by kernel_rfl) (by kernel_rfl) ?_
      repeat (go_big_quiet_step (fail))
      refine wpQuiet_nil ?_
      rintro _ ⟨nq, rfl⟩
      have HB4 : Hid (Below w.heap.size w nq.now) := HA.out.trans (nq.bel.mono HA.out.size)
      go_wp2_with fail
      go_ret
      exact bres_no HF.out HB4.out
    | true =>
    have HTB : Hid ((k : Int) + 1 ≤ tq ∧ tq ≤ (l3 : Int) - 1) := HB2.out.1 rfl
    obtain ⟨w0, w1, e0, hF, hP⟩ := HCR.out
    simp only [List.cons.injEq, and_true] at e0
    obtain ⟨rfl, rfl⟩ := e0
    obtain ⟨aa, cc, ee, hel⟩ := hP
    simp only [Value.slice.injEq] at ee
    obtain ⟨rfl, el, rfl⟩ := ee
    have HLN : Hid (c.Pats.length = l1) := el.symm
    have HEL : Hid (∀ (i : Nat) (t : Tm d), c.Pats[i]? = some t → ∃ b o vs, a1 = some ⟨b, o, none⟩ ∧ vs.length = 4 ∧ (∀ (j : Nat) (u : Value), vs[j]? = some u → W.cell? ⟨b, o + i * 4 + j, none⟩ = some u) ∧ PatR d W vs t) := hel
    clear hF hel el HCR
    obtain ⟨ib, hib⟩ : ∃ ib : Bool, ib = true ↔ 0 ≤ n ∧ n ≤ (l1 : Int) - 1 := by
      by_cases q : 0 ≤ n ∧ n ≤ (l1 : Int) - 1
      · exact ⟨true, by simp [q]⟩
      · exact ⟨false, by simp only [Bool.false_eq_true, false_iff]; exact q⟩
    have HIC : Hid (∀ X : World, Calls Tryd.prog 49 #[.int .i64 n, .int .i64 0, .int .i64 ((l1 : Int) - 1)] X fun e w' => e = .returned (.bool ib) ∧ Below X.heap.size X w') := fun X => by
      refine (in_call n 0 ((l1 : Int) - 1) X).mono ?_
      rintro e w' ⟨b', rfl, hb', rfl⟩
      have : b' = ib := by
        cases b' <;> cases ib
        · rfl
        · exact hb'.2 (hib.1 rfl)
        · exact (hib.2 (hb'.1 rfl)).symm
        · rfl
      rw [this]
      exact ⟨rfl, Below.refl _ _⟩
    cases ib with
    | false =>
      have HCC : Hid (∀ X : World, Below W.heap.size W X → Calls Tryd.prog 49 #[.int .i64 n, .int .i64 0, .int .i64 ((l1 : Int) - 1)] X fun e w' => e = .returned (.bool false) ∧ Below X.heap.size X w') := fun X _ => HIC.out X
      have HF : Hid (¬ PP) := by
        rw [← HPP.out]
        rintro ⟨h, _⟩
        rw [insP9] at h
        obtain ⟨i, p, r1, r2, _⟩ := h.2
        have h3 := (List.getElem?_eq_some_iff.1 r2).1
        have h4 := HLN.out
        have := hib.2 ⟨by omega, by omega⟩
        cases this
      clear x0 x1 x2 x3 y2 y3 z0 z1 hib
      refine wp_region_after (by kernel_rfl) (by kernel_rfl) ?_
      repeat (go_big_quiet_step ((go_at_call 49; exact calls_after (HIC.out _))))
      refine wpQuiet_nil ?_
      rintro _ ⟨nq, rfl⟩
      have HB4 : Hid (Below w.heap.size w nq.now) := HA.out.trans (nq.bel.mono HA.out.size)
      go_wp2_with fail
      go_ret
      exact bres_no HF.out HB4.out
    | true =>
    have h0 := hib.1 rfl
    obtain ⟨i, rfl⟩ : ∃ i : Nat, n = i := ⟨n.toNat, by omega⟩
    obtain ⟨t, hte⟩ : ∃ t, c.Pats[i]? = some t := ⟨_, List.getElem?_eq_getElem (by have := HLN.out; omega)⟩
    obtain ⟨bb, oo, vs, rfl, hvl, hcl, hre⟩ := HEL.out i t hte
    obtain ⟨g0, g1, g2, ga, gl, gc, rfl⟩ := PatR.shape _ _ _ _ hre
    have h20 : W.cell? ⟨bb, oo + i * 4, none⟩ = some _ := hcl 0 _ rfl
    have h21 : W.cell? ⟨bb, oo + i * 4 + 1, none⟩ = some _ := hcl 1 _ rfl
    have h22 : W.cell? ⟨bb, oo + i * 4 + 2, none⟩ = some _ := hcl 2 _ rfl
    have h23 : W.cell? ⟨bb, oo + i * 4 + 3, none⟩ = some _ := hcl 3 _ rfl
    have p3 := After.cell h20
    have p4 := After.cell h21
    have p5 := After.cell h22
    have p6 := After.cell h23
    have h2' : (i : Int) < (l1 : Int) := by omega
    have hi0 : (0 : Int) ≤ (i : Int) := by omega
    obtain ⟨pb, hpb⟩ : ∃ pb : Bool, pb = true ↔ pPatFits d t sl := by
      by_cases q : pPatFits d t sl
      · exact ⟨true, by simp [q]⟩
      · exact ⟨false, by simp [q]⟩
    have HCC : Hid (∀ X : World, Below W.heap.size W X → Calls Tryd.prog 34 #[.agg #[.int .i64 g0, .int .i64 g1, .string g2, .slice ga gl gc], .int .i64 sl] X fun e w' => e = .returned (.bool pb) ∧ Below X.heap.size X w') := fun X hX => by
      refine (specPatFits_any d _ t sl X (PatR.lasts d _ _ _ _ hre hX) (HWC.out.1.2.2 t (List.mem_of_getElem? hte)) ?_ (by constructor <;> omega)).mono ?_
      · have h5 := szRow_mem (f := szPatD d) hte
        have h6 := HWC.out.2
        unfold szCodeD at h6
        omega
      · rintro e w' ⟨b', rfl, hb', hB'⟩
        have : b' = pb := by
          cases b' <;> cases pb
          · rfl
          · exact hb'.2 (hpb.1 rfl)
          · exact (hpb.2 (hb'.1 rfl)).symm
          · rfl
        rw [this]
        exact ⟨rfl, hB'⟩
    have HF : Hid (pb = true ↔ PP) := by
      rw [← HPP.out]
      refine hpb.trans ⟨fun h => ⟨by rw [insP9]; exact ⟨HSE.out, i, t, rfl, hte, h⟩, fun _ => HTB.out⟩, ?_⟩
      rintro ⟨h, _⟩
      rw [insP9] at h
      obtain ⟨k', p, r1, r2, r3⟩ := h.2
      obtain rfl : i = k' := by omega
      rw [hte] at r2
      cases r2
      exact r3
    clear hre hcl hvl hte hpb h20 h21 h22 h23 x0 x1 x2 x3 y2 y3 z0 z1 hib h0
    refine wp_region_after (by kernel_rfl) (by kernel_rfl) ?_
    repeat (go_big_quiet_step (first | (go_at_call 49; exact calls_after (HIC.out _)) | (go_at_call 34; exact calls_after (HCC.out _ (After.bel _)))))
    refine wpQuiet_nil ?_
    rintro _ ⟨nq, rfl⟩
    have HB4 : Hid (Below w.heap.size w nq.now) := HA.out.trans (nq.bel.mono HA.out.size)
    go_wp2_with fail
    go_ret
    exact bres_is HF.out HB4.out
  · have he : s.toList.isEmpty = false := empty_no hse
    have HSE : Hid (¬ s.size = 0) := hse
    clear hse hIN
    have HF : Hid (¬ PP) := by rw [← HPP.out]; rintro ⟨h, h2⟩; rw [insP9] at h; exact HSE.out h.1
    go_enter Tryd.func50, Tryd.ntmps50
    go_wp2_with fail
    rw [← hW]
    clear hW f0 f1 f2 f3
    have hn0 := After.some W
    have p0 := After.cell x1
    have p1 := After.cell z1
    have p2 := After.cell y2
    clear x0 x1 x2 x3 y2 y3 z0 z1
    refine wp_region_after (by kernel_rfl) (by kernel_rfl) ?_
    repeat (go_big_quiet_step (fail))
    refine wpQuiet_nil ?_
    rintro _ ⟨nq, rfl⟩
    have HB4 : Hid (Below w.heap.size w nq.now) := HA.out.trans (nq.bel.mono HA.out.size)
    go_wp2_with fail
    go_ret
    exact bres_no HF.out HB4.out

set_option maxRecDepth 100000 in
set_option maxHeartbeats 4000000 in
theorem l9Ins_10 {d : Nat} (a0 : Option Addr) (l0 c0 : Nat) (a1 : Option Addr) (l1 c1 : Nat) (c : DCode d) (nm : ByteArray) (ag sl : Int) (b o l3 c3 k : Nat) (n : Int) (s : ByteArray) (tq : Int) (w : World)
    (hc : CodeR d w [.slice a0 l0 c0, .slice a1 l1 c1] c) (hwc : WfCode d c) (hz : szCodeD d c ≤ 1048576) (f0 : w.cell? ⟨b, o + k * 4, none⟩ = some (.int .i64 10)) (f1 : w.cell? ⟨b, o + k * 4 + 1, none⟩ = some (.int .i64 n)) (f2 : w.cell? ⟨b, o + k * 4 + 2, none⟩ = some (.string s)) (f3 : w.cell? ⟨b, o + k * 4 + 3, none⟩ = some (.int .i64 tq))
    (hk : k < l3) (hl3 : l3 ≤ 1048576) (hs : s.size ≤ 9223372036854775807) (hn : I64 n) (hsl0 : 0 ≤ sl) (hsl1 : sl ≤ 400) :
    Calls Tryd.prog 50 #[.agg #[.slice a0 l0 c0, .slice a1 l1 c1], .agg #[.string nm, .int .i64 ag, .int .i64 sl, .slice (some ⟨b, o, none⟩) l3 c3], .int .i64 k] w fun e w' => BRes (LiP c sl l3 k 10 n s tq) w e w' := by
  obtain ⟨PP, hPP⟩ : ∃ P : Prop, LiP c sl l3 k 10 n s tq = P := ⟨_, rfl⟩
  have HPP : Hid (LiP c sl l3 k 10 n s tq = PP) := hPP
  rw [hPP]
  clear hPP
  obtain ⟨W, hW⟩ : ∃ W, W = ((w.alloc (.cells #[.slice a0 l0 c0, .slice a1 l1 c1] 32)).alloc (.cells #[.string nm, .int .i64 ag, .int .i64 sl, .slice (some ⟨b, o, none⟩) l3 c3] 45)).alloc (.cells #[.int .i64 10, .int .i64 n, .string s, .int .i64 tq] 48) := ⟨_, rfl⟩
  have hA : Below w.heap.size w W := by rw [hW]; exact (((Below.refl _ _).alloc (Nat.le_refl _) _).alloc (by simp) _).alloc (by simp; omega) _
  obtain ⟨nA, nB, nC⟩ := heap_three w (.cells #[.slice a0 l0 c0, .slice a1 l1 c1] 32) (.cells #[.string nm, .int .i64 ag, .int .i64 sl, .slice (some ⟨b, o, none⟩) l3 c3] 45) (.cells #[.int .i64 10, .int .i64 n, .string s, .int .i64 tq] 48)
  rw [← hW] at nA nB nC
  have HA : Hid (Below w.heap.size w W) := hA
  have HCR : Hid (CodeR d W [.slice a0 l0 c0, .slice a1 l1 c1] c) := CodeR.lasts d _ _ _ _ hc hA
  have HWC : Hid (WfCode d c ∧ szCodeD d c ≤ 1048576) := ⟨hwc, hz⟩
  have hk' : (k : Int) < (l3 : Int) := by omega
  have hbl : b < w.heap.size := by have := World.block_lt_of_cell? w _ f0; simpa using this
  have hl1 : l1 ≤ 1048576 := by
    obtain ⟨w0, w1, e0, hF, hP⟩ := hc
    simp only [List.cons.injEq, and_true] at e0
    obtain ⟨rfl, rfl⟩ := e0
    obtain ⟨aa, cc, ee⟩ := hP.slice
    simp only [Value.slice.injEq] at ee
    have := szRow_len (szPatD d) c.Pats
    unfold szCodeD at hz
    omega
  have hVs : w.heap.size + 1 + 1 < W.heap.size := lt_row nC
  have x0 : W.cell? ⟨w.heap.size + 1 + 1, 0, none⟩ = some (.int .i64 10) := by rw [cell_of_row W _ 0 _ _ _ nC]; rfl
  have x1 : W.cell? ⟨w.heap.size + 1 + 1, 1, none⟩ = some (.int .i64 n) := by rw [cell_of_row W _ 1 _ _ _ nC]; rfl
  have x2 : W.cell? ⟨w.heap.size + 1 + 1, 2, none⟩ = some (.string s) := by rw [cell_of_row W _ 2 _ _ _ nC]; rfl
  have x3 : W.cell? ⟨w.heap.size + 1 + 1, 3, none⟩ = some (.int .i64 tq) := by rw [cell_of_row W _ 3 _ _ _ nC]; rfl
  have y2 : W.cell? ⟨w.heap.size + 1, 2, none⟩ = some (.int .i64 sl) := by rw [cell_of_row W _ 2 _ _ _ nB]; rfl
  have y3 : W.cell? ⟨w.heap.size + 1, 3, none⟩ = some (.slice (some ⟨b, o, none⟩) l3 c3) := by rw [cell_of_row W _ 3 _ _ _ nB]; rfl
  have z0 : W.cell? ⟨w.heap.size, 0, none⟩ = some (.slice a0 l0 c0) := by rw [cell_of_row W _ 0 _ _ _ nA]; rfl
  have z1 : W.cell? ⟨w.heap.size, 1, none⟩ = some (.slice a1 l1 c1) := by rw [cell_of_row W _ 1 _ _ _ nA]; rfl
  have hIN := in_call tq ((k : Int) + 1) ((l3 : Int) - 1) W
  clear hc hwc hz hA nA nB nC
  by_cases hse : s.size = 0
  · have he : s.toList.isEmpty = true := (empty_iff s).2 hse
    have HSE : Hid (s.size = 0) := hse
    clear hse
    rw [hW] at hIN
    go_enter Tryd.func50, Tryd.ntmps50
    go_wp2_with fail
    refine hIN.mono ?_
    clear hIN
    rintro e V ⟨b2, rfl, hb2, hV⟩
    rw [← hW] at hV
    subst hV
    have HB2 : Hid (b2 = true ↔ (k : Int) + 1 ≤ tq ∧ tq ≤ (l3 : Int) - 1) := hb2
    clear hb2 hW f0 f1 f2 f3
    cases b2 with
    | false =>
      have HF : Hid (¬ PP) := by rw [← HPP.out]; rintro ⟨h, h2⟩; have := HB2.out.2 (h2 (.inr rfl)); cases this
      go_wp2_with fail
      go_ret
      exact bres_no HF.out HA.out
    | true =>
      have HTB : Hid ((k : Int) + 1 ≤ tq ∧ tq ≤ (l3 : Int) - 1) := HB2.out.1 rfl
      by_cases hn0 : n = 0
      · have hn1 : (n == 0) = true := by simp [hn0]
        have HF : Hid PP := by rw [← HPP.out]; exact ⟨by rw [insP10]; exact ⟨HSE.out, hn0⟩, fun _ => HTB.out⟩
        clear hn0
        go_wp2_with fail
        go_ret
        exact bres_yes HF.out HA.out
      · have hn1 : (n == 0) = false := by simp [hn0]
        have HF : Hid (¬ PP) := by rw [← HPP.out]; rintro ⟨h, h2⟩; rw [insP10] at h; exact hn0 h.2
        clear hn0
        go_wp2_with fail
        go_ret
        exact bres_no HF.out HA.out
  · have he : s.toList.isEmpty = false := empty_no hse
    have HSE : Hid (¬ s.size = 0) := hse
    clear hse hIN
    have HF : Hid (¬ PP) := by rw [← HPP.out]; rintro ⟨h, h2⟩; rw [insP10] at h; exact HSE.out h.1
    rw [hW] at HA
    go_enter Tryd.func50, Tryd.ntmps50
    go_wp2_with fail
    go_ret
    exact bres_no HF.out HA.out

set_option maxRecDepth 100000 in
set_option maxHeartbeats 4000000 in
theorem l9Ins_11 {d : Nat} (a0 : Option Addr) (l0 c0 : Nat) (a1 : Option Addr) (l1 c1 : Nat) (c : DCode d) (nm : ByteArray) (ag sl : Int) (b o l3 c3 k : Nat) (n : Int) (s : ByteArray) (tq : Int) (w : World)
    (hc : CodeR d w [.slice a0 l0 c0, .slice a1 l1 c1] c) (hwc : WfCode d c) (hz : szCodeD d c ≤ 1048576) (f0 : w.cell? ⟨b, o + k * 4, none⟩ = some (.int .i64 11)) (f1 : w.cell? ⟨b, o + k * 4 + 1, none⟩ = some (.int .i64 n)) (f2 : w.cell? ⟨b, o + k * 4 + 2, none⟩ = some (.string s)) (f3 : w.cell? ⟨b, o + k * 4 + 3, none⟩ = some (.int .i64 tq))
    (hk : k < l3) (hl3 : l3 ≤ 1048576) (hs : s.size ≤ 9223372036854775807) (hn : I64 n) (hsl0 : 0 ≤ sl) (hsl1 : sl ≤ 400) :
    Calls Tryd.prog 50 #[.agg #[.slice a0 l0 c0, .slice a1 l1 c1], .agg #[.string nm, .int .i64 ag, .int .i64 sl, .slice (some ⟨b, o, none⟩) l3 c3], .int .i64 k] w fun e w' => BRes (LiP c sl l3 k 11 n s tq) w e w' := by
  obtain ⟨PP, hPP⟩ : ∃ P : Prop, LiP c sl l3 k 11 n s tq = P := ⟨_, rfl⟩
  have HPP : Hid (LiP c sl l3 k 11 n s tq = PP) := hPP
  rw [hPP]
  clear hPP
  obtain ⟨W, hW⟩ : ∃ W, W = ((w.alloc (.cells #[.slice a0 l0 c0, .slice a1 l1 c1] 32)).alloc (.cells #[.string nm, .int .i64 ag, .int .i64 sl, .slice (some ⟨b, o, none⟩) l3 c3] 45)).alloc (.cells #[.int .i64 11, .int .i64 n, .string s, .int .i64 tq] 48) := ⟨_, rfl⟩
  have hA : Below w.heap.size w W := by rw [hW]; exact (((Below.refl _ _).alloc (Nat.le_refl _) _).alloc (by simp) _).alloc (by simp; omega) _
  obtain ⟨nA, nB, nC⟩ := heap_three w (.cells #[.slice a0 l0 c0, .slice a1 l1 c1] 32) (.cells #[.string nm, .int .i64 ag, .int .i64 sl, .slice (some ⟨b, o, none⟩) l3 c3] 45) (.cells #[.int .i64 11, .int .i64 n, .string s, .int .i64 tq] 48)
  rw [← hW] at nA nB nC
  have HA : Hid (Below w.heap.size w W) := hA
  have HCR : Hid (CodeR d W [.slice a0 l0 c0, .slice a1 l1 c1] c) := CodeR.lasts d _ _ _ _ hc hA
  have HWC : Hid (WfCode d c ∧ szCodeD d c ≤ 1048576) := ⟨hwc, hz⟩
  have hk' : (k : Int) < (l3 : Int) := by omega
  have hbl : b < w.heap.size := by have := World.block_lt_of_cell? w _ f0; simpa using this
  have hl1 : l1 ≤ 1048576 := by
    obtain ⟨w0, w1, e0, hF, hP⟩ := hc
    simp only [List.cons.injEq, and_true] at e0
    obtain ⟨rfl, rfl⟩ := e0
    obtain ⟨aa, cc, ee⟩ := hP.slice
    simp only [Value.slice.injEq] at ee
    have := szRow_len (szPatD d) c.Pats
    unfold szCodeD at hz
    omega
  have hVs : w.heap.size + 1 + 1 < W.heap.size := lt_row nC
  have x0 : W.cell? ⟨w.heap.size + 1 + 1, 0, none⟩ = some (.int .i64 11) := by rw [cell_of_row W _ 0 _ _ _ nC]; rfl
  have x1 : W.cell? ⟨w.heap.size + 1 + 1, 1, none⟩ = some (.int .i64 n) := by rw [cell_of_row W _ 1 _ _ _ nC]; rfl
  have x2 : W.cell? ⟨w.heap.size + 1 + 1, 2, none⟩ = some (.string s) := by rw [cell_of_row W _ 2 _ _ _ nC]; rfl
  have x3 : W.cell? ⟨w.heap.size + 1 + 1, 3, none⟩ = some (.int .i64 tq) := by rw [cell_of_row W _ 3 _ _ _ nC]; rfl
  have y2 : W.cell? ⟨w.heap.size + 1, 2, none⟩ = some (.int .i64 sl) := by rw [cell_of_row W _ 2 _ _ _ nB]; rfl
  have y3 : W.cell? ⟨w.heap.size + 1, 3, none⟩ = some (.slice (some ⟨b, o, none⟩) l3 c3) := by rw [cell_of_row W _ 3 _ _ _ nB]; rfl
  have z0 : W.cell? ⟨w.heap.size, 0, none⟩ = some (.slice a0 l0 c0) := by rw [cell_of_row W _ 0 _ _ _ nA]; rfl
  have z1 : W.cell? ⟨w.heap.size, 1, none⟩ = some (.slice a1 l1 c1) := by rw [cell_of_row W _ 1 _ _ _ nA]; rfl
  have hIN := in_call tq ((k : Int) + 1) ((l3 : Int) - 1) W
  clear hc hwc hz hA nA nB nC
  by_cases hse : s.size = 0
  · have he : s.toList.isEmpty = true := (empty_iff s).2 hse
    have HSE : Hid (s.size = 0) := hse
    clear hse
    rw [hW] at hIN
    go_enter Tryd.func50, Tryd.ntmps50
    go_wp2_with fail
    refine hIN.mono ?_
    clear hIN
    rintro e V ⟨b2, rfl, hb2, hV⟩
    rw [← hW] at hV
    subst hV
    have HB2 : Hid (b2 = true ↔ (k : Int) + 1 ≤ tq ∧ tq ≤ (l3 : Int) - 1) := hb2
    clear hb2 hW f0 f1 f2 f3
    by_cases ht0 : tq = 0
    case neg =>
      have HF : Hid (¬ PP) := by rw [← HPP.out]; rintro ⟨h, h2⟩; rw [insP11] at h; exact ht0 h.2.2
      have ht1 : (tq == 0) = false := by simp [ht0]
      clear ht0
      go_wp2_with fail
      go_ret
      exact bres_no HF.out HA.out
    have ht1 : (tq == 0) = true := by simp [ht0]
    by_cases hn0 : n = 0
    case neg =>
      have HF : Hid (¬ PP) := by rw [← HPP.out]; rintro ⟨h, h2⟩; rw [insP11] at h; exact hn0 h.2.1
      have hn1 : (n == 0) = false := by simp [hn0]
      clear ht0 hn0
      go_wp2_with fail
      go_ret
      exact bres_no HF.out HA.out
    have hn1 : (n == 0) = true := by simp [hn0]
    have HTN : Hid (tq = 0 ∧ n = 0) := ⟨ht0, hn0⟩
    clear ht0 hn0
    have hC := in_call 11 11 12 W
    go_wp2_with fail
    refine hC.mono ?_
    clear hC
    rintro e V ⟨b3, rfl, hb3, hV⟩
    subst hV
    have HF : Hid (b3 = true ↔ PP) := by
      rw [← HPP.out]
      constructor
      · intro h
        have := hb3.1 h
        exact ⟨by rw [insP11]; exact ⟨HSE.out, HTN.out.2, HTN.out.1⟩, fun e => by omega⟩
      · rintro ⟨h, _⟩
        exact hb3.2 ⟨by omega, by omega⟩
    clear hb3
    go_wp2_with fail
    go_ret
    exact bres_is HF.out HA.out
  · have he : s.toList.isEmpty = false := empty_no hse
    have HSE : Hid (¬ s.size = 0) := hse
    clear hse hIN
    have HF : Hid (¬ PP) := by rw [← HPP.out]; rintro ⟨h, h2⟩; rw [insP11] at h; exact HSE.out h.1
    rw [hW] at HA
    go_enter Tryd.func50, Tryd.ntmps50
    go_wp2_with fail
    go_ret
    exact bres_no HF.out HA.out

set_option maxRecDepth 100000 in
set_option maxHeartbeats 4000000 in
theorem l9Ins_12 {d : Nat} (a0 : Option Addr) (l0 c0 : Nat) (a1 : Option Addr) (l1 c1 : Nat) (c : DCode d) (nm : ByteArray) (ag sl : Int) (b o l3 c3 k : Nat) (n : Int) (s : ByteArray) (tq : Int) (w : World)
    (hc : CodeR d w [.slice a0 l0 c0, .slice a1 l1 c1] c) (hwc : WfCode d c) (hz : szCodeD d c ≤ 1048576) (f0 : w.cell? ⟨b, o + k * 4, none⟩ = some (.int .i64 12)) (f1 : w.cell? ⟨b, o + k * 4 + 1, none⟩ = some (.int .i64 n)) (f2 : w.cell? ⟨b, o + k * 4 + 2, none⟩ = some (.string s)) (f3 : w.cell? ⟨b, o + k * 4 + 3, none⟩ = some (.int .i64 tq))
    (hk : k < l3) (hl3 : l3 ≤ 1048576) (hs : s.size ≤ 9223372036854775807) (hn : I64 n) (hsl0 : 0 ≤ sl) (hsl1 : sl ≤ 400) :
    Calls Tryd.prog 50 #[.agg #[.slice a0 l0 c0, .slice a1 l1 c1], .agg #[.string nm, .int .i64 ag, .int .i64 sl, .slice (some ⟨b, o, none⟩) l3 c3], .int .i64 k] w fun e w' => BRes (LiP c sl l3 k 12 n s tq) w e w' := by
  obtain ⟨PP, hPP⟩ : ∃ P : Prop, LiP c sl l3 k 12 n s tq = P := ⟨_, rfl⟩
  have HPP : Hid (LiP c sl l3 k 12 n s tq = PP) := hPP
  rw [hPP]
  clear hPP
  obtain ⟨W, hW⟩ : ∃ W, W = ((w.alloc (.cells #[.slice a0 l0 c0, .slice a1 l1 c1] 32)).alloc (.cells #[.string nm, .int .i64 ag, .int .i64 sl, .slice (some ⟨b, o, none⟩) l3 c3] 45)).alloc (.cells #[.int .i64 12, .int .i64 n, .string s, .int .i64 tq] 48) := ⟨_, rfl⟩
  have hA : Below w.heap.size w W := by rw [hW]; exact (((Below.refl _ _).alloc (Nat.le_refl _) _).alloc (by simp) _).alloc (by simp; omega) _
  obtain ⟨nA, nB, nC⟩ := heap_three w (.cells #[.slice a0 l0 c0, .slice a1 l1 c1] 32) (.cells #[.string nm, .int .i64 ag, .int .i64 sl, .slice (some ⟨b, o, none⟩) l3 c3] 45) (.cells #[.int .i64 12, .int .i64 n, .string s, .int .i64 tq] 48)
  rw [← hW] at nA nB nC
  have HA : Hid (Below w.heap.size w W) := hA
  have HCR : Hid (CodeR d W [.slice a0 l0 c0, .slice a1 l1 c1] c) := CodeR.lasts d _ _ _ _ hc hA
  have HWC : Hid (WfCode d c ∧ szCodeD d c ≤ 1048576) := ⟨hwc, hz⟩
  have hk' : (k : Int) < (l3 : Int) := by omega
  have hbl : b < w.heap.size := by have := World.block_lt_of_cell? w _ f0; simpa using this
  have hl1 : l1 ≤ 1048576 := by
    obtain ⟨w0, w1, e0, hF, hP⟩ := hc
    simp only [List.cons.injEq, and_true] at e0
    obtain ⟨rfl, rfl⟩ := e0
    obtain ⟨aa, cc, ee⟩ := hP.slice
    simp only [Value.slice.injEq] at ee
    have := szRow_len (szPatD d) c.Pats
    unfold szCodeD at hz
    omega
  have hVs : w.heap.size + 1 + 1 < W.heap.size := lt_row nC
  have x0 : W.cell? ⟨w.heap.size + 1 + 1, 0, none⟩ = some (.int .i64 12) := by rw [cell_of_row W _ 0 _ _ _ nC]; rfl
  have x1 : W.cell? ⟨w.heap.size + 1 + 1, 1, none⟩ = some (.int .i64 n) := by rw [cell_of_row W _ 1 _ _ _ nC]; rfl
  have x2 : W.cell? ⟨w.heap.size + 1 + 1, 2, none⟩ = some (.string s) := by rw [cell_of_row W _ 2 _ _ _ nC]; rfl
  have x3 : W.cell? ⟨w.heap.size + 1 + 1, 3, none⟩ = some (.int .i64 tq) := by rw [cell_of_row W _ 3 _ _ _ nC]; rfl
  have y2 : W.cell? ⟨w.heap.size + 1, 2, none⟩ = some (.int .i64 sl) := by rw [cell_of_row W _ 2 _ _ _ nB]; rfl
  have y3 : W.cell? ⟨w.heap.size + 1, 3, none⟩ = some (.slice (some ⟨b, o, none⟩) l3 c3) := by rw [cell_of_row W _ 3 _ _ _ nB]; rfl
  have z0 : W.cell? ⟨w.heap.size, 0, none⟩ = some (.slice a0 l0 c0) := by rw [cell_of_row W _ 0 _ _ _ nA]; rfl
  have z1 : W.cell? ⟨w.heap.size, 1, none⟩ = some (.slice a1 l1 c1) := by rw [cell_of_row W _ 1 _ _ _ nA]; rfl
  have hIN := in_call tq ((k : Int) + 1) ((l3 : Int) - 1) W
  clear hc hwc hz hA nA nB nC
  by_cases hse : s.size = 0
  · have he : s.toList.isEmpty = true := (empty_iff s).2 hse
    have HSE : Hid (s.size = 0) := hse
    clear hse
    rw [hW] at hIN
    go_enter Tryd.func50, Tryd.ntmps50
    go_wp2_with fail
    refine hIN.mono ?_
    clear hIN
    rintro e V ⟨b2, rfl, hb2, hV⟩
    rw [← hW] at hV
    subst hV
    have HB2 : Hid (b2 = true ↔ (k : Int) + 1 ≤ tq ∧ tq ≤ (l3 : Int) - 1) := hb2
    clear hb2 hW f0 f1 f2 f3
    by_cases ht0 : tq = 0
    case neg =>
      have HF : Hid (¬ PP) := by rw [← HPP.out]; rintro ⟨h, h2⟩; rw [insP12] at h; exact ht0 h.2.2
      have ht1 : (tq == 0) = false := by simp [ht0]
      clear ht0
      go_wp2_with fail
      go_ret
      exact bres_no HF.out HA.out
    have ht1 : (tq == 0) = true := by simp [ht0]
    by_cases hn0 : n = 0
    case neg =>
      have HF : Hid (¬ PP) := by rw [← HPP.out]; rintro ⟨h, h2⟩; rw [insP12] at h; exact hn0 h.2.1
      have hn1 : (n == 0) = false := by simp [hn0]
      clear ht0 hn0
      go_wp2_with fail
      go_ret
      exact bres_no HF.out HA.out
    have hn1 : (n == 0) = true := by simp [hn0]
    have HTN : Hid (tq = 0 ∧ n = 0) := ⟨ht0, hn0⟩
    clear ht0 hn0
    have hC := in_call 12 11 12 W
    go_wp2_with fail
    refine hC.mono ?_
    clear hC
    rintro e V ⟨b3, rfl, hb3, hV⟩
    subst hV
    have HF : Hid (b3 = true ↔ PP) := by
      rw [← HPP.out]
      constructor
      · intro h
        have := hb3.1 h
        exact ⟨by rw [insP12]; exact ⟨HSE.out, HTN.out.2, HTN.out.1⟩, fun e => by omega⟩
      · rintro ⟨h, _⟩
        exact hb3.2 ⟨by omega, by omega⟩
    clear hb3
    go_wp2_with fail
    go_ret
    exact bres_is HF.out HA.out
  · have he : s.toList.isEmpty = false := empty_no hse
    have HSE : Hid (¬ s.size = 0) := hse
    clear hse hIN
    have HF : Hid (¬ PP) := by rw [← HPP.out]; rintro ⟨h, h2⟩; rw [insP12] at h; exact HSE.out h.1
    rw [hW] at HA
    go_enter Tryd.func50, Tryd.ntmps50
    go_wp2_with fail
    go_ret
    exact bres_no HF.out HA.out

set_option maxRecDepth 100000 in
set_option maxHeartbeats 4000000 in
theorem l9Ins_x {d : Nat} (a0 : Option Addr) (l0 c0 : Nat) (a1 : Option Addr) (l1 c1 : Nat) (c : DCode d) (nm : ByteArray) (ag sl : Int) (b o l3 c3 k : Nat) (op : Int) (n : Int) (s : ByteArray) (tq : Int) (w : World)
    (hc : CodeR d w [.slice a0 l0 c0, .slice a1 l1 c1] c) (hwc : WfCode d c) (hz : szCodeD d c ≤ 1048576) (f0 : w.cell? ⟨b, o + k * 4, none⟩ = some (.int .i64 op)) (f1 : w.cell? ⟨b, o + k * 4 + 1, none⟩ = some (.int .i64 n)) (f2 : w.cell? ⟨b, o + k * 4 + 2, none⟩ = some (.string s)) (f3 : w.cell? ⟨b, o + k * 4 + 3, none⟩ = some (.int .i64 tq))
    (hk : k < l3) (hl3 : l3 ≤ 1048576) (hs : s.size ≤ 9223372036854775807) (hn : I64 n) (hsl0 : 0 ≤ sl) (hsl1 : sl ≤ 400) (hop : op < 1 ∨ 12 < op) :
    Calls Tryd.prog 50 #[.agg #[.slice a0 l0 c0, .slice a1 l1 c1], .agg #[.string nm, .int .i64 ag, .int .i64 sl, .slice (some ⟨b, o, none⟩) l3 c3], .int .i64 k] w fun e w' => BRes (LiP c sl l3 k op n s tq) w e w' := by
  obtain ⟨PP, hPP⟩ : ∃ P : Prop, LiP c sl l3 k op n s tq = P := ⟨_, rfl⟩
  have HPP : Hid (LiP c sl l3 k op n s tq = PP) := hPP
  rw [hPP]
  clear hPP
  obtain ⟨W, hW⟩ : ∃ W, W = ((w.alloc (.cells #[.slice a0 l0 c0, .slice a1 l1 c1] 32)).alloc (.cells #[.string nm, .int .i64 ag, .int .i64 sl, .slice (some ⟨b, o, none⟩) l3 c3] 45)).alloc (.cells #[.int .i64 op, .int .i64 n, .string s, .int .i64 tq] 48) := ⟨_, rfl⟩
  have hA : Below w.heap.size w W := by rw [hW]; exact (((Below.refl _ _).alloc (Nat.le_refl _) _).alloc (by simp) _).alloc (by simp; omega) _
  obtain ⟨nA, nB, nC⟩ := heap_three w (.cells #[.slice a0 l0 c0, .slice a1 l1 c1] 32) (.cells #[.string nm, .int .i64 ag, .int .i64 sl, .slice (some ⟨b, o, none⟩) l3 c3] 45) (.cells #[.int .i64 op, .int .i64 n, .string s, .int .i64 tq] 48)
  rw [← hW] at nA nB nC
  have HA : Hid (Below w.heap.size w W) := hA
  have HCR : Hid (CodeR d W [.slice a0 l0 c0, .slice a1 l1 c1] c) := CodeR.lasts d _ _ _ _ hc hA
  have HWC : Hid (WfCode d c ∧ szCodeD d c ≤ 1048576) := ⟨hwc, hz⟩
  have hk' : (k : Int) < (l3 : Int) := by omega
  have hbl : b < w.heap.size := by have := World.block_lt_of_cell? w _ f0; simpa using this
  have hl1 : l1 ≤ 1048576 := by
    obtain ⟨w0, w1, e0, hF, hP⟩ := hc
    simp only [List.cons.injEq, and_true] at e0
    obtain ⟨rfl, rfl⟩ := e0
    obtain ⟨aa, cc, ee⟩ := hP.slice
    simp only [Value.slice.injEq] at ee
    have := szRow_len (szPatD d) c.Pats
    unfold szCodeD at hz
    omega
  have hVs : w.heap.size + 1 + 1 < W.heap.size := lt_row nC
  have x0 : W.cell? ⟨w.heap.size + 1 + 1, 0, none⟩ = some (.int .i64 op) := by rw [cell_of_row W _ 0 _ _ _ nC]; rfl
  have x1 : W.cell? ⟨w.heap.size + 1 + 1, 1, none⟩ = some (.int .i64 n) := by rw [cell_of_row W _ 1 _ _ _ nC]; rfl
  have x2 : W.cell? ⟨w.heap.size + 1 + 1, 2, none⟩ = some (.string s) := by rw [cell_of_row W _ 2 _ _ _ nC]; rfl
  have x3 : W.cell? ⟨w.heap.size + 1 + 1, 3, none⟩ = some (.int .i64 tq) := by rw [cell_of_row W _ 3 _ _ _ nC]; rfl
  have y2 : W.cell? ⟨w.heap.size + 1, 2, none⟩ = some (.int .i64 sl) := by rw [cell_of_row W _ 2 _ _ _ nB]; rfl
  have y3 : W.cell? ⟨w.heap.size + 1, 3, none⟩ = some (.slice (some ⟨b, o, none⟩) l3 c3) := by rw [cell_of_row W _ 3 _ _ _ nB]; rfl
  have z0 : W.cell? ⟨w.heap.size, 0, none⟩ = some (.slice a0 l0 c0) := by rw [cell_of_row W _ 0 _ _ _ nA]; rfl
  have z1 : W.cell? ⟨w.heap.size, 1, none⟩ = some (.slice a1 l1 c1) := by rw [cell_of_row W _ 1 _ _ _ nA]; rfl
  have hIN := in_call tq ((k : Int) + 1) ((l3 : Int) - 1) W
  clear hc hwc hz hA nA nB nC
  have q1 : (op == 1) = false := by simp; omega
  have q2 : (op == 2) = false := by simp; omega
  have q3 : (op == 3) = false := by simp; omega
  have q4 : (op == 4) = false := by simp; omega
  have q5 : (op == 5) = false := by simp; omega
  have q6 : (op == 6) = false := by simp; omega
  have q7 : (op == 7) = false := by simp; omega
  have q8 : (op == 8) = false := by simp; omega
  have q9 : (op == 9) = false := by simp; omega
  have q10 : (op == 10) = false := by simp; omega
  have HOPX : Hid (op < 1 ∨ 12 < op) := hop
  clear hop
  by_cases hse : s.size = 0
  · have he : s.toList.isEmpty = true := (empty_iff s).2 hse
    have HSE : Hid (s.size = 0) := hse
    clear hse
    rw [hW] at hIN
    go_enter Tryd.func50, Tryd.ntmps50
    go_wp2_with fail
    refine hIN.mono ?_
    clear hIN
    rintro e V ⟨b2, rfl, hb2, hV⟩
    rw [← hW] at hV
    subst hV
    have HB2 : Hid (b2 = true ↔ (k : Int) + 1 ≤ tq ∧ tq ≤ (l3 : Int) - 1) := hb2
    clear hb2 hW f0 f1 f2 f3
    by_cases ht0 : tq = 0
    case neg =>
      have HF : Hid (¬ PP) := by rw [← HPP.out]; rintro ⟨h, h2⟩; have := h.op; have := HOPX.out; omega
      have ht1 : (tq == 0) = false := by simp [ht0]
      clear ht0
      go_wp2_with fail
      go_ret
      exact bres_no HF.out HA.out
    have ht1 : (tq == 0) = true := by simp [ht0]
    by_cases hn0 : n = 0
    case neg =>
      have HF : Hid (¬ PP) := by rw [← HPP.out]; rintro ⟨h, h2⟩; have := h.op; have := HOPX.out; omega
      have hn1 : (n == 0) = false := by simp [hn0]
      clear ht0 hn0
      go_wp2_with fail
      go_ret
      exact bres_no HF.out HA.out
    have hn1 : (n == 0) = true := by simp [hn0]
    have HTN : Hid (tq = 0 ∧ n = 0) := ⟨ht0, hn0⟩
    clear ht0 hn0
    have hC := in_call op 11 12 W
    go_wp2_with fail
    refine hC.mono ?_
    clear hC
    rintro e V ⟨b3, rfl, hb3, hV⟩
    subst hV
    have HF : Hid (b3 = true ↔ PP) := by
      rw [← HPP.out]
      constructor
      · intro h
        have := hb3.1 h
        have := HOPX.out; omega
      · rintro ⟨h, _⟩
        have := h.op; have := HOPX.out; omega
    clear hb3
    go_wp2_with fail
    go_ret
    exact bres_is HF.out HA.out
  · have he : s.toList.isEmpty = false := empty_no hse
    have HSE : Hid (¬ s.size = 0) := hse
    clear hse hIN
    have HF : Hid (¬ PP) := by rw [← HPP.out]; rintro ⟨h, h2⟩; have := h.op; have := HOPX.out; omega
    rw [hW] at HA
    go_enter Tryd.func50, Tryd.ntmps50
    go_wp2_with fail
    go_ret
    exact bres_no HF.out HA.out

theorem l9Ins_any {d : Nat} (a0 : Option Addr) (l0 c0 : Nat) (a1 : Option Addr) (l1 c1 : Nat) (c : DCode d) (nm : ByteArray) (ag sl : Int) (b o l3 c3 k : Nat) (op : Int) (n : Int) (s : ByteArray) (tq : Int) (w : World)
    (hc : CodeR d w [.slice a0 l0 c0, .slice a1 l1 c1] c) (hwc : WfCode d c) (hz : szCodeD d c ≤ 1048576) (f0 : w.cell? ⟨b, o + k * 4, none⟩ = some (.int .i64 op)) (f1 : w.cell? ⟨b, o + k * 4 + 1, none⟩ = some (.int .i64 n)) (f2 : w.cell? ⟨b, o + k * 4 + 2, none⟩ = some (.string s)) (f3 : w.cell? ⟨b, o + k * 4 + 3, none⟩ = some (.int .i64 tq))
    (hk : k < l3) (hl3 : l3 ≤ 1048576) (hs : s.size ≤ 9223372036854775807) (hn : I64 n) (hsl0 : 0 ≤ sl) (hsl1 : sl ≤ 400) :
    Calls Tryd.prog 50 #[.agg #[.slice a0 l0 c0, .slice a1 l1 c1], .agg #[.string nm, .int .i64 ag, .int .i64 sl, .slice (some ⟨b, o, none⟩) l3 c3], .int .i64 k] w fun e w' => BRes (LiP c sl l3 k op n s tq) w e w' := by
  by_cases h : op < 1 ∨ 12 < op
  · exact l9Ins_x a0 l0 c0 a1 l1 c1 c nm ag sl b o l3 c3 k op n s tq w hc hwc hz f0 f1 f2 f3 hk hl3 hs hn hsl0 hsl1 h
  · rcases ins_ops (op := op) (by omega) (by omega) with rfl | rfl | rfl | rfl | rfl | rfl | rfl | rfl | rfl | rfl | rfl | rfl
    · exact l9Ins_1 a0 l0 c0 a1 l1 c1 c nm ag sl b o l3 c3 k n s tq w hc hwc hz f0 f1 f2 f3 hk hl3 hs hn hsl0 hsl1
    · exact l9Ins_2 a0 l0 c0 a1 l1 c1 c nm ag sl b o l3 c3 k n s tq w hc hwc hz f0 f1 f2 f3 hk hl3 hs hn hsl0 hsl1
    · exact l9Ins_3 a0 l0 c0 a1 l1 c1 c nm ag sl b o l3 c3 k n s tq w hc hwc hz f0 f1 f2 f3 hk hl3 hs hn hsl0 hsl1
    · exact l9Ins_4 a0 l0 c0 a1 l1 c1 c nm ag sl b o l3 c3 k n s tq w hc hwc hz f0 f1 f2 f3 hk hl3 hs hn hsl0 hsl1
    · exact l9Ins_5 a0 l0 c0 a1 l1 c1 c nm ag sl b o l3 c3 k n s tq w hc hwc hz f0 f1 f2 f3 hk hl3 hs hn hsl0 hsl1
    · exact l9Ins_6 a0 l0 c0 a1 l1 c1 c nm ag sl b o l3 c3 k n s tq w hc hwc hz f0 f1 f2 f3 hk hl3 hs hn hsl0 hsl1
    · exact l9Ins_7 a0 l0 c0 a1 l1 c1 c nm ag sl b o l3 c3 k n s tq w hc hwc hz f0 f1 f2 f3 hk hl3 hs hn hsl0 hsl1
    · exact l9Ins_8 a0 l0 c0 a1 l1 c1 c nm ag sl b o l3 c3 k n s tq w hc hwc hz f0 f1 f2 f3 hk hl3 hs hn hsl0 hsl1
    · exact l9Ins_9 a0 l0 c0 a1 l1 c1 c nm ag sl b o l3 c3 k n s tq w hc hwc hz f0 f1 f2 f3 hk hl3 hs hn hsl0 hsl1
    · exact l9Ins_10 a0 l0 c0 a1 l1 c1 c nm ag sl b o l3 c3 k n s tq w hc hwc hz f0 f1 f2 f3 hk hl3 hs hn hsl0 hsl1
    · exact l9Ins_11 a0 l0 c0 a1 l1 c1 c nm ag sl b o l3 c3 k n s tq w hc hwc hz f0 f1 f2 f3 hk hl3 hs hn hsl0 hsl1
    · exact l9Ins_12 a0 l0 c0 a1 l1 c1 c nm ag sl b o l3 c3 k n s tq w hc hwc hz f0 f1 f2 f3 hk hl3 hs hn hsl0 hsl1

end Go.Proofs.YtfachfimdenapaaDoor
