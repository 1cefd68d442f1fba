/- A struct of the laws as data: Worker; the law's own measure, copy and comparison of it; how it is read. -/
import Derived.Test.YtfachfimdenapaaDt0M
import Derived.Test.YtfachfimdenapaaOkM
import Derived.Test.YtfachfimdenapaaRowWorkerM
namespace Go.Proofs.Ytfachfimdenapaa
open Go.RowKit Go.ChangeShapes Go.WideShapes Go.Joins Go.Deep
set_option linter.unusedVariables false

structure DWorker (d : Nat) where
  Pid : Int
  Name : ByteArray
  Mod : ByteArray
  No : Int
  State : Tm (d + 1)
  Box : List (Tm (d + 1))


def WorkerR (d : Nat) (w : World) (vs : List Value) (x : DWorker d) : Prop := ∃ v4 v5 v6 v7 v8, vs = [.int .i64 x.Pid, .string x.Name, .string x.Mod, .int .i64 x.No, v4, v5, v6, v7, v8] ∧ TmR d w [v4, v5, v6, v7] x.State ∧ RdL (d + 1) w v8 x.Box

def WorkerO (d : Nat) (w : World) (vs : List Value) (x : DWorker d) (fp : List Nat) : Prop := ∃ v4 v5 v6 v7 v8 f0 f1, vs = [.int .i64 x.Pid, .string x.Name, .string x.Mod, .int .i64 x.No, v4, v5, v6, v7, v8] ∧ fp = f0 ++ (f1) ∧ TmO d w [v4, v5, v6, v7] x.State f0 ∧ OwnL (d + 1) w v8 x.Box f1

def WfWorker (d : Nat) (x : DWorker d) : Prop := I64 x.Pid ∧ x.Name.size ≤ maxLen ∧ x.Mod.size ≤ maxLen ∧ I64 x.No ∧ WfTm d x.State ∧ WfL (d + 1) x.Box

def szWorkerD (d : Nat) (x : DWorker d) : Nat := x.Name.size + (x.Mod.size + (szTm d x.State + (szL (d + 1) x.Box)))

theorem WorkerR.lasts (d : Nat) : Lasts (WorkerR d) := by
  rintro w w' vs x ⟨v4, v5, v6, v7, v8, rfl, h0, h1⟩ hb
  exact ⟨v4, v5, v6, v7, v8, rfl, (TmR.lasts d _ _ _ _ h0 hb), (h1.later hb)⟩

theorem WorkerO.lasts (d : Nat) : LastsO (WorkerO d) := by
  rintro w w' vs x fp ⟨v4, v5, v6, v7, v8, f0, f1, rfl, rfl, h0, h1⟩ hb
  exact ⟨v4, v5, v6, v7, v8, _, _, rfl, rfl, TmO.lasts d _ _ _ _ _ h0 fun j hj => hb j (List.mem_append_left _ hj), h1.frame fun j hj => hb j (List.mem_append_right _ (hj))⟩

theorem WorkerO.reads (d : Nat) : Reads (WorkerO d) (WorkerR d) := by
  rintro w vs x fp ⟨v4, v5, v6, v7, v8, f0, f1, rfl, rfl, h0, h1⟩
  exact ⟨v4, v5, v6, v7, v8, rfl, (TmO.reads d _ _ _ _ h0), h1.rd⟩

theorem WorkerR.shape (d : Nat) : ∀ w vs x, WorkerR d w vs x → ShWorker vs := by
  rintro w vs x ⟨v4, v5, v6, v7, v8, rfl, h0, h1⟩
  obtain ⟨q0i4, q0i5, q0s6, q0a7, q0l7, q0c7, esh⟩ := TmR.shape d _ _ _ h0
  cases esh
  obtain ⟨q1a8, q1l8, q1c8, rfl⟩ := h1.shape
  exact ⟨_, _, _, _, _, _, _, _, _, _, _, _, _, rfl⟩

theorem WorkerO.shape (d : Nat) : ∀ w vs x fp, WorkerO d w vs x fp → ShWorker vs := fun w vs x fp h => WorkerR.shape d w vs x (WorkerO.reads d w vs x fp h)

set_option maxHeartbeats 4000000 in
theorem szWorker_any (d : Nat) : SzEl 6 (WorkerR d) (WfWorker d) (szWorkerD d) := by
  rintro vs x left w ⟨v4, v5, v6, v7, v8, rfl, h0, h1⟩ ⟨wPid, wName, wMod, wNo, wState, wBox⟩ hl0 hm
  obtain ⟨i4, i5, s6, a7, l7, c7, esh⟩ := TmR.shape d _ _ _ h0
  cases esh
  obtain ⟨a8, l8, c8, rfl⟩ := h1.shape
  have hsName : x.Name.size ≤ 9223372036854775807 := by unfold maxLen at wName; omega
  have hsMod : x.Mod.size ≤ 9223372036854775807 := by unfold maxLen at wMod; omega
  obtain ⟨W, hW⟩ : ∃ W, W = w.alloc (Obj.cells #[.int .i64 x.Pid, .string x.Name, .string x.Mod, .int .i64 x.No, .int .i64 i4, .int .i64 i5, .string s6, .slice a7 l7 c7, .slice a8 l8 c8] 26) := ⟨_, rfl⟩
  have hA : Below w.heap.size w W := by rw [hW]; exact (Below.refl _ _).alloc (Nat.le_refl _) _
  have hWc : W.heap[w.heap.size]? = some (Obj.cells #[.int .i64 x.Pid, .string x.Name, .string x.Mod, .int .i64 x.No, .int .i64 i4, .int .i64 i5, .string s6, .slice a7 l7 c7, .slice a8 l8 c8] 26 (0, 0)) := by rw [hW]; exact heap_alloc_new w _
  obtain ⟨A4, hA4⟩ : ∃ A, szTm d x.State = A := ⟨_, rfl⟩
  obtain ⟨A8, hA8⟩ : ∃ A, szL (d + 1) x.Box = A := ⟨_, rfl⟩
  have e0 : szWorkerD d x = x.Name.size + (x.Mod.size + (A4 + (A8))) := by rw [← hA4]; rw [← hA8]; rfl
  rw [e0]
  obtain ⟨TL, hTL⟩ : ∃ L, lft left (x.Name.size + (x.Mod.size + (A4 + (A8)))) = L := ⟨_, rfl⟩
  rw [hTL]
  have H4 : Hid (∀ V : World, Below w.heap.size w V → ∀ l : Int, 0 ≤ l → l ≤ 1048576 → _) := fun V hV l p1 p2 => szTm_any d [.int .i64 i4, .int .i64 i5, .string s6, .slice a7 l7 c7] x.State l V (TmR.lasts d _ _ _ _ h0 hV) wState p1 p2
  rw [hA4] at H4
  have H8 : Hid (∀ V : World, Below w.heap.size w V → ∀ l : Int, 0 ≤ l → l ≤ 1048576 → _) := fun V hV l p1 p2 => szTermS_any (d + 1) (.slice a8 l8 c8) x.Box l V (h1.later hV) wBox p1 p2
  rw [hA8] at H8
  have HW : Hid (W = _) := hW
  have HT0 : Hid (TL = lft left (x.Name.size + (x.Mod.size + (A4 + (A8))))) := hTL.symm
  have HB0 : Hid (Below w.heap.size w W ∧ W.heap[w.heap.size]? = some (Obj.cells #[.int .i64 x.Pid, .string x.Name, .string x.Mod, .int .i64 x.No, .int .i64 i4, .int .i64 i5, .string s6, .slice a7 l7 c7, .slice a8 l8 c8] 26 (0, 0))) := ⟨hA, hWc⟩
  clear e0 hTL hW hA hWc hA4 h0 wState hA8 h1 wBox
  by_cases hlt1 : left < (x.Name.size : Int)
  · have HF : Hid ((-1 : Int) = TL) := by show _ = _; rw [HT0.out]; unfold lft; rw [if_neg (by omega)]
    go_enter Try.func6, Try.ntmps6
    go_wp2
    go_ret
    exact ⟨tret1 HF.out, (by have := HB0.out.1; rw [HW.out] at this; exact this)⟩
  · have HT2 : Hid (TL = lft (left - (x.Name.size : Int)) (x.Mod.size + (A4 + (A8)))) := by
      show _ = _
      rw [HT0.out]
      unfold lft
      by_cases h : ((x.Mod.size + (A4 + (A8)) : Nat) : Int) ≤ (left - (x.Name.size : Int))
      · rw [if_pos h, if_pos (by omega)]; omega
      · rw [if_neg h, if_neg (by omega)]
    by_cases hlt2 : (left - (x.Name.size : Int)) < (x.Mod.size : Int)
    · have HF : Hid ((-1 : Int) = TL) := by show _ = _; rw [HT2.out]; unfold lft; rw [if_neg (by omega)]
      go_enter Try.func6, Try.ntmps6
      go_wp2
      go_ret
      exact ⟨tret1 HF.out, (by have := HB0.out.1; rw [HW.out] at this; exact this)⟩
    · have HT3 : Hid (TL = lft ((left - (x.Name.size : Int)) - (x.Mod.size : Int)) (A4 + (A8))) := by
        show _ = _
        rw [HT2.out]
        unfold lft
        by_cases h : ((A4 + (A8) : Nat) : Int) ≤ ((left - (x.Name.size : Int)) - (x.Mod.size : Int))
        · rw [if_pos h, if_pos (by omega)]; omega
        · rw [if_neg h, if_neg (by omega)]
      have hC := H4.out W HB0.out.1 ((left - (x.Name.size : Int)) - (x.Mod.size : Int)) (by omega) (by omega)
      obtain ⟨y4, hy4⟩ : ∃ y, lft ((left - (x.Name.size : Int)) - (x.Mod.size : Int)) A4 = y := ⟨_, rfl⟩
      have HL4 : Hid (_ ∧ _) := lft_two ((left - (x.Name.size : Int)) - (x.Mod.size : Int)) A4 (A8) (by omega)
      rw [hy4] at hC HL4
      clear hy4
      rw [HW.out] at hC
      go_enter Try.func6, Try.ntmps6
      go_wp2_with fail
      refine hC.mono ?_
      clear hC
      rintro e w4 ⟨rfl, hb4⟩
      rw [← HW.out] at hb4
      have HB5 : Hid (Below w.heap.size w w4 ∧ w4.heap[w.heap.size]? = some (Obj.cells #[.int .i64 x.Pid, .string x.Name, .string x.Mod, .int .i64 x.No, .int .i64 i4, .int .i64 i5, .string s6, .slice a7 l7 c7, .slice a8 l8 c8] 26 (0, 0))) := ⟨HB0.out.1.trans (hb4.mono HB0.out.1.size), (hb4.block _ (lt_row HB0.out.2)).trans HB0.out.2⟩
      clear hb4
      by_cases hneg : y4 < 0
      · have HF : Hid ((-1 : Int) = TL) := by show _ = _; rw [HT3.out]; exact (HL4.out.1 (by omega)).symm
        go_wp2
        go_ret
        exact ⟨tret1 HF.out, HB5.out.1⟩
      · obtain ⟨E1, E2, E3⟩ := HL4.out.2 (by omega)
        have HT5 : Hid (TL = lft y4 (A8)) := by show _ = _; rw [HT3.out]; exact E1.symm
        have hm4 : y4 ≤ 1048576 := by omega
        clear E1
        have f8 : w4.cell? ⟨w.heap.size, 8, none⟩ = some (.slice a8 l8 c8) := by rw [cell_of_row w4 _ 8 _ _ _ HB5.out.2]; rfl
        have hC := H8.out w4 HB5.out.1 y4 (by omega) (by omega)
        obtain ⟨y8, hy8⟩ : ∃ y, lft y4 A8 = y := ⟨_, rfl⟩
        have HL8 : Hid (y8 < 0 → y8 = -1) := fun h => by rw [← hy8] at h ⊢; exact lft_neg _ _ h
        have HM8 : Hid (TL = y8) := HT5.out.trans hy8
        rw [hy8] at hC
        clear hy8
        go_wp2_with fail
        refine hC.mono ?_
        clear hC
        rintro e w8 ⟨rfl, hb8⟩
        have HB9 : Hid (Below w.heap.size w w8 ∧ w8.heap[w.heap.size]? = some (Obj.cells #[.int .i64 x.Pid, .string x.Name, .string x.Mod, .int .i64 x.No, .int .i64 i4, .int .i64 i5, .string s6, .slice a7 l7 c7, .slice a8 l8 c8] 26 (0, 0))) := ⟨HB5.out.1.trans (hb8.mono HB5.out.1.size), (hb8.block _ (lt_row HB5.out.2)).trans HB5.out.2⟩
        clear hb8
        by_cases hneg : y8 < 0
        · have HF : Hid ((-1 : Int) = TL) := by show _ = _; rw [HM8.out]; exact (HL8.out (by omega)).symm
          go_wp2
          go_ret
          exact ⟨tret1 HF.out, HB9.out.1⟩
        · have HF : Hid (y8 = TL) := HM8.out.symm
          go_wp2
          go_ret
          exact ⟨tret1 HF.out, HB9.out.1⟩

set_option maxHeartbeats 4000000 in
theorem toWorker_any (d : Nat) : ToEl 8 (WorkerR d) (WorkerO d) (WfWorker d) (szWorkerD d) := by
  rintro vs x w ⟨v4, v5, v6, v7, v8, rfl, h0, h1⟩ ⟨wPid, wName, wMod, wNo, wState, wBox⟩ hz
  have hz' : x.Name.size + (x.Mod.size + (szTm d x.State + (szL (d + 1) x.Box))) ≤ 1048576 := hz
  obtain ⟨i4, i5, s6, a7, l7, c7, esh⟩ := TmR.shape d _ _ _ h0
  cases esh
  obtain ⟨a8, l8, c8, rfl⟩ := h1.shape
  obtain ⟨W, hW⟩ : ∃ W, W = ((w.alloc (Obj.cells #[.int .i64 x.Pid, .string x.Name, .string x.Mod, .int .i64 x.No, .int .i64 i4, .int .i64 i5, .string s6, .slice a7 l7 c7, .slice a8 l8 c8] 26)).alloc (.cells #[.int .i64 0, .string ⟨#[]⟩, .string ⟨#[]⟩, .int .i64 0, .int .i64 0, .int .i64 0, .string ⟨#[]⟩, .slice none 0 0, .slice none 0 0] 33)).alloc (.cells #[.int .i64 x.Pid, .string x.Name, .string x.Mod, .int .i64 x.No, .int .i64 0, .int .i64 0, .string ⟨#[]⟩, .slice none 0 0, .slice none 0 0] 33) := ⟨_, rfl⟩
  obtain ⟨nA, nB, nC⟩ := heap_three w (Obj.cells #[.int .i64 x.Pid, .string x.Name, .string x.Mod, .int .i64 x.No, .int .i64 i4, .int .i64 i5, .string s6, .slice a7 l7 c7, .slice a8 l8 c8] 26) (.cells #[.int .i64 0, .string ⟨#[]⟩, .string ⟨#[]⟩, .int .i64 0, .int .i64 0, .int .i64 0, .string ⟨#[]⟩, .slice none 0 0, .slice none 0 0] 33) (.cells #[.int .i64 x.Pid, .string x.Name, .string x.Mod, .int .i64 x.No, .int .i64 0, .int .i64 0, .string ⟨#[]⟩, .slice none 0 0, .slice none 0 0] 33)
  rw [← hW] at nA nB nC
  have hWb : Below w.heap.size w W := by rw [hW]; exact (((Below.refl _ _).alloc (Nat.le_refl _) _).alloc (by simp) _).alloc (by simp; omega) _
  have hWs : W.heap.size = w.heap.size + 1 + 1 + 1 := by rw [hW]; simp
  have H4 : Hid (∀ V : World, Below w.heap.size w V → _) := fun V hV => toTm_any d [.int .i64 i4, .int .i64 i5, .string s6, .slice a7 l7 c7] x.State V (TmR.lasts d _ _ _ _ h0 hV) wState (by omega)
  have HSO4 : Hid (∀ (V : World) (vs : List Value) (f : List Nat), TmO d V vs x.State f → ShTerm vs) := fun V vs f h => TmO.shape d V vs x.State f h
  have H8 : Hid (∀ V : World, Below w.heap.size w V → _) := fun V hV => toTermS_any (d + 1) (.slice a8 l8 c8) x.Box V (h1.later hV) wBox (by omega)
  have HW : Hid (W = _) := hW
  have HBW : Hid (Below w.heap.size w W) := hWb
  have HN : Hid (_ ∧ _ ∧ _) := ⟨nA, nB, nC⟩
  clear hW nA nB nC hWb hz hz' h0 wState h1 wBox
  have hC := H4.out W HBW.out
  rw [HW.out] at hC
  go_enter Try.func8, Try.ntmps8
  go_wp2_with fail
  refine hC.mono ?_
  clear hC
  rintro e w4 ⟨vs4, fp4, rfl, hown4, hfr4, hb4⟩
  obtain ⟨yi4, yi5, ys6, ya7, yl7, yc7, rfl⟩ := HSO4.out _ _ _ hown4
  rw [← HW.out] at hfr4 hb4
  obtain ⟨nA, nB, nC⟩ := HN.out
  have zz4 := hb4.size
  have nA4 := (hb4.block _ (lt_row nA)).trans nA
  have nB4 := (hb4.block _ (lt_row nB)).trans nB
  have nC4 := (hb4.block _ (lt_row nC)).trans nC
  obtain ⟨V4, hV4⟩ : ∃ V, V = (((w4.setCell ⟨w.heap.size + 1 + 1, 4, none⟩ (.int .i64 yi4)).setCell ⟨w.heap.size + 1 + 1, 5, none⟩ (.int .i64 yi5)).setCell ⟨w.heap.size + 1 + 1, 6, none⟩ (.string ys6)).setCell ⟨w.heap.size + 1 + 1, 7, none⟩ (.slice ya7 yl7 yc7) := ⟨_, rfl⟩
  have hV4' : V4 = setL w4 (w.heap.size + 1 + 1) 4 [.int .i64 yi4, .int .i64 yi5, .string ys6, .slice ya7 yl7 yc7] := hV4
  have hzV4 : V4.heap.size = w4.heap.size := by rw [hV4']; exact setL_size _ _ _ _
  have hkV : ∀ j, j ≠ w.heap.size + 1 + 1 → V4.heap[j]? = w4.heap[j]? := fun j hj => by rw [hV4']; exact setL_other _ _ _ _ _ hj
  have hbV : Below (w.heap.size + 1 + 1) w4 V4 := by rw [hV4']; exact setL_below _ _ _ _ _ (Nat.le_refl _)
  have nCV : V4.heap[w.heap.size + 1 + 1]? = some (.cells #[.int .i64 x.Pid, .string x.Name, .string x.Mod, .int .i64 x.No, .int .i64 yi4, .int .i64 yi5, .string ys6, .slice ya7 yl7 yc7, .slice none 0 0] 33 (0, 0)) := by rw [hV4']; exact setL_row _ _ _ _ _ _ nC4
  have HN4 : Hid (_ ∧ _ ∧ _) := ⟨(hkV _ (by omega)).trans nA4, (hkV _ (by omega)).trans nB4, nCV⟩
  have HB4 : Hid (Below w.heap.size w V4) := (HBW.out.trans (hb4.mono HBW.out.size)).trans (hbV.mono (by omega))
  have HO4 : Hid (TmO d V4 [.int .i64 yi4, .int .i64 yi5, .string ys6, .slice ya7 yl7 yc7] x.State fp4) := TmO.lasts d _ _ _ _ _ hown4 fun g hg => hkV g (by have := (hfr4.2 g hg).1; omega)
  have HR4 : Hid (fp4.Nodup ∧ ∀ g ∈ fp4, W.heap.size ≤ g ∧ g < w4.heap.size) := ⟨hfr4.1, hfr4.2⟩
  have hC := H8.out V4 HB4.out
  rw [hV4] at hC
  have HV4 : Hid (V4 = _) := hV4
  have f8 : w4.cell? ⟨w.heap.size, 8, none⟩ = some (.slice a8 l8 c8) := by rw [cell_of_row w4 _ 8 _ _ _ nA4]; rfl
  have g4 : w4.cell? ⟨w.heap.size + 1 + 1, 4, none⟩ = some (.int .i64 0) := by rw [cell_of_row w4 _ 4 _ _ _ nC4]; rfl
  have z4 : w4.frozen? ⟨w.heap.size + 1 + 1, 4, none⟩ = false := frozen_of_row w4 _ _ _ _ nC4
  have g5 : w4.cell? ⟨w.heap.size + 1 + 1, 5, none⟩ = some (.int .i64 0) := by rw [cell_of_row w4 _ 5 _ _ _ nC4]; rfl
  have z5 : w4.frozen? ⟨w.heap.size + 1 + 1, 5, none⟩ = false := frozen_of_row w4 _ _ _ _ nC4
  have g6 : w4.cell? ⟨w.heap.size + 1 + 1, 6, none⟩ = some (.string ⟨#[]⟩) := by rw [cell_of_row w4 _ 6 _ _ _ nC4]; rfl
  have z6 : w4.frozen? ⟨w.heap.size + 1 + 1, 6, none⟩ = false := frozen_of_row w4 _ _ _ _ nC4
  have g7 : w4.cell? ⟨w.heap.size + 1 + 1, 7, none⟩ = some (.slice none 0 0) := by rw [cell_of_row w4 _ 7 _ _ _ nC4]; rfl
  have z7 : w4.frozen? ⟨w.heap.size + 1 + 1, 7, none⟩ = false := frozen_of_row w4 _ _ _ _ nC4
  clear hV4 hV4' nA4 nB4 nC4 nA nB nC nCV hkV hbV hown4 hfr4 hb4 HN
  go_wp2_with fail
  refine hC.mono ?_
  clear hC f8 g4 z4 g5 z5 g6 z6 g7 z7
  rintro e w8 ⟨ya8, yl8, yc8, fp8, rfl, hown8, hfr8, hb8⟩
  rw [← HV4.out] at hfr8 hb8
  obtain ⟨nA, nB, nC⟩ := HN4.out
  have zz8 := hb8.size
  have nA8 := (hb8.block _ (lt_row nA)).trans nA
  have nB8 := (hb8.block _ (lt_row nB)).trans nB
  have nC8 := (hb8.block _ (lt_row nC)).trans nC
  have HR8 : Hid (fp8.Nodup ∧ ∀ g ∈ fp8, V4.heap.size ≤ g ∧ g < w8.heap.size) := ⟨hfr8.1, hfr8.2⟩
  have HFIN : Hid (∀ Z, Kept (w.heap.size + 1) (w.heap.size + 1 + 1 + 1) w8 Z → WorkerO d Z [.int .i64 x.Pid, .string x.Name, .string x.Mod, .int .i64 x.No, .int .i64 yi4, .int .i64 yi5, .string ys6, .slice ya7 yl7 yc7, .slice ya8 yl8 yc8] x (fp4 ++ (fp8)) ∧ Fresh w.heap.size Z (fp4 ++ (fp8)) ∧ Below w.heap.size w Z) := fun Z hZ => by
    have hzZ := hZ.size
    have hbw : Below w.heap.size w w8 := HB4.out.trans (hb8.mono HB4.out.size)
    have hwz := hbw.size
    have r4 := HR4.out
    have r8 := HR8.out
    refine ⟨⟨_, _, _, _, _, fp4, fp8, rfl, rfl, TmO.lasts d _ _ _ _ _ HO4.out fun g hg => (hZ.block g (by have := (r4.2 g hg).2; omega) (.inr (by have := (r4.2 g hg).1; omega))).trans (hb8.block g (by have := (r4.2 g hg).2; omega)), hown8.frame fun g hg => hZ.block g (r8.2 g hg).2 (.inr (by have := (r8.2 g hg).1; omega))⟩, ⟨?_, fun g hg => ?_⟩, ?_⟩
    · exact List.nodup_append.2 ⟨r4.1, r8.1, fun a ha b hb e => by subst e; have h1 := r4.2 a ha; have h2 := r8.2 a hb; omega⟩
    · simp only [List.mem_append] at hg
      rcases hg with hg | hg <;> first | (have h2 := r4.2 g hg; omega) | (have h2 := r8.2 g hg; omega)
    · exact hbw.trans (hZ.below (by omega) hbw.size)
  have g0 : w8.cell? ⟨w.heap.size + 1 + 1, 0, none⟩ = some (.int .i64 x.Pid) := by rw [cell_of_row w8 _ 0 _ _ _ nC8]; rfl
  have z0 : w8.frozen? ⟨w.heap.size + 1 + 1, 0, none⟩ = false := frozen_of_row w8 _ _ _ _ nC8
  have b0 : w8.cell? ⟨w.heap.size + 1, 0, none⟩ = some (.int .i64 0) := by rw [cell_of_row w8 _ 0 _ _ _ nB8]; rfl
  have u0 : w8.frozen? ⟨w.heap.size + 1, 0, none⟩ = false := frozen_of_row w8 _ _ _ _ nB8
  have g1 : w8.cell? ⟨w.heap.size + 1 + 1, 1, none⟩ = some (.string x.Name) := by rw [cell_of_row w8 _ 1 _ _ _ nC8]; rfl
  have z1 : w8.frozen? ⟨w.heap.size + 1 + 1, 1, none⟩ = false := frozen_of_row w8 _ _ _ _ nC8
  have b1 : w8.cell? ⟨w.heap.size + 1, 1, none⟩ = some (.string ⟨#[]⟩) := by rw [cell_of_row w8 _ 1 _ _ _ nB8]; rfl
  have u1 : w8.frozen? ⟨w.heap.size + 1, 1, none⟩ = false := frozen_of_row w8 _ _ _ _ nB8
  have g2 : w8.cell? ⟨w.heap.size + 1 + 1, 2, none⟩ = some (.string x.Mod) := by rw [cell_of_row w8 _ 2 _ _ _ nC8]; rfl
  have z2 : w8.frozen? ⟨w.heap.size + 1 + 1, 2, none⟩ = false := frozen_of_row w8 _ _ _ _ nC8
  have b2 : w8.cell? ⟨w.heap.size + 1, 2, none⟩ = some (.string ⟨#[]⟩) := by rw [cell_of_row w8 _ 2 _ _ _ nB8]; rfl
  have u2 : w8.frozen? ⟨w.heap.size + 1, 2, none⟩ = false := frozen_of_row w8 _ _ _ _ nB8
  have g3 : w8.cell? ⟨w.heap.size + 1 + 1, 3, none⟩ = some (.int .i64 x.No) := by rw [cell_of_row w8 _ 3 _ _ _ nC8]; rfl
  have z3 : w8.frozen? ⟨w.heap.size + 1 + 1, 3, none⟩ = false := frozen_of_row w8 _ _ _ _ nC8
  have b3 : w8.cell? ⟨w.heap.size + 1, 3, none⟩ = some (.int .i64 0) := by rw [cell_of_row w8 _ 3 _ _ _ nB8]; rfl
  have u3 : w8.frozen? ⟨w.heap.size + 1, 3, none⟩ = false := frozen_of_row w8 _ _ _ _ nB8
  have g4 : w8.cell? ⟨w.heap.size + 1 + 1, 4, none⟩ = some (.int .i64 yi4) := by rw [cell_of_row w8 _ 4 _ _ _ nC8]; rfl
  have z4 : w8.frozen? ⟨w.heap.size + 1 + 1, 4, none⟩ = false := frozen_of_row w8 _ _ _ _ nC8
  have b4 : w8.cell? ⟨w.heap.size + 1, 4, none⟩ = some (.int .i64 0) := by rw [cell_of_row w8 _ 4 _ _ _ nB8]; rfl
  have u4 : w8.frozen? ⟨w.heap.size + 1, 4, none⟩ = false := frozen_of_row w8 _ _ _ _ nB8
  have g5 : w8.cell? ⟨w.heap.size + 1 + 1, 5, none⟩ = some (.int .i64 yi5) := by rw [cell_of_row w8 _ 5 _ _ _ nC8]; rfl
  have z5 : w8.frozen? ⟨w.heap.size + 1 + 1, 5, none⟩ = false := frozen_of_row w8 _ _ _ _ nC8
  have b5 : w8.cell? ⟨w.heap.size + 1, 5, none⟩ = some (.int .i64 0) := by rw [cell_of_row w8 _ 5 _ _ _ nB8]; rfl
  have u5 : w8.frozen? ⟨w.heap.size + 1, 5, none⟩ = false := frozen_of_row w8 _ _ _ _ nB8
  have g6 : w8.cell? ⟨w.heap.size + 1 + 1, 6, none⟩ = some (.string ys6) := by rw [cell_of_row w8 _ 6 _ _ _ nC8]; rfl
  have z6 : w8.frozen? ⟨w.heap.size + 1 + 1, 6, none⟩ = false := frozen_of_row w8 _ _ _ _ nC8
  have b6 : w8.cell? ⟨w.heap.size + 1, 6, none⟩ = some (.string ⟨#[]⟩) := by rw [cell_of_row w8 _ 6 _ _ _ nB8]; rfl
  have u6 : w8.frozen? ⟨w.heap.size + 1, 6, none⟩ = false := frozen_of_row w8 _ _ _ _ nB8
  have g7 : w8.cell? ⟨w.heap.size + 1 + 1, 7, none⟩ = some (.slice ya7 yl7 yc7) := by rw [cell_of_row w8 _ 7 _ _ _ nC8]; rfl
  have z7 : w8.frozen? ⟨w.heap.size + 1 + 1, 7, none⟩ = false := frozen_of_row w8 _ _ _ _ nC8
  have b7 : w8.cell? ⟨w.heap.size + 1, 7, none⟩ = some (.slice none 0 0) := by rw [cell_of_row w8 _ 7 _ _ _ nB8]; rfl
  have u7 : w8.frozen? ⟨w.heap.size + 1, 7, none⟩ = false := frozen_of_row w8 _ _ _ _ nB8
  have g8 : w8.cell? ⟨w.heap.size + 1 + 1, 8, none⟩ = some (.slice none 0 0) := by rw [cell_of_row w8 _ 8 _ _ _ nC8]; rfl
  have z8 : w8.frozen? ⟨w.heap.size + 1 + 1, 8, none⟩ = false := frozen_of_row w8 _ _ _ _ nC8
  have b8 : w8.cell? ⟨w.heap.size + 1, 8, none⟩ = some (.slice none 0 0) := by rw [cell_of_row w8 _ 8 _ _ _ nB8]; rfl
  have u8 : w8.frozen? ⟨w.heap.size + 1, 8, none⟩ = false := frozen_of_row w8 _ _ _ _ nB8
  clear nA8 nB8 nC8 nA nB nC hown8 hfr8 hb8 HN4
  go_wp2_with fail
  refine bodyPost_ret (v := .agg #[.int .i64 x.Pid, .string x.Name, .string x.Mod, .int .i64 x.No, .int .i64 yi4, .int .i64 yi5, .string ys6, .slice ya7 yl7 yc7, .slice ya8 yl8 yc8]) (by first | (simp [results, Try.results8, go_sem, b0, b1, b2, b3, b4, b5, b6, b7, b8]; done) | (simp [results, Try.results8, go_sem, b0, b1, b2, b3, b4, b5, b6, b7, b8]; rfl)) rfl ⟨[.int .i64 x.Pid, .string x.Name, .string x.Mod, .int .i64 x.No, .int .i64 yi4, .int .i64 yi5, .string ys6, .slice ya7 yl7 yc7, .slice ya8 yl8 yc8], fp4 ++ (fp8), rfl, HFIN.out _ ?_⟩
  repeat (first | with_reducible exact Kept.refl _ _ _ | with_reducible refine Kept.drew ?_ | (with_reducible refine Kept.set ?_ ?_; omega))

set_option maxHeartbeats 4000000 in
theorem eqWorker_any (d : Nat) : EqEl 10 (WorkerR d) (WfWorker d) := by
  rintro vs1 vs2 x w ⟨v4, v5, v6, v7, v8, rfl, h0, h1⟩ ⟨v4z, v5z, v6z, v7z, v8z, rfl, k0, k1⟩ ⟨wPid, wName, wMod, wNo, wState, wBox⟩
  obtain ⟨i4, i5, s6, a7, l7, c7, esh⟩ := TmR.shape d _ _ _ h0
  cases esh
  obtain ⟨a8, l8, c8, rfl⟩ := h1.shape
  obtain ⟨zi4, zi5, zs6, za7, zl7, zc7, esz⟩ := TmR.shape d _ _ _ k0
  cases esz
  obtain ⟨za8, zl8, zc8, rfl⟩ := k1.shape
  obtain ⟨W, hW⟩ : ∃ W, W = (w.alloc (Obj.cells #[.int .i64 x.Pid, .string x.Name, .string x.Mod, .int .i64 x.No, .int .i64 i4, .int .i64 i5, .string s6, .slice a7 l7 c7, .slice a8 l8 c8] 33)).alloc (Obj.cells #[.int .i64 x.Pid, .string x.Name, .string x.Mod, .int .i64 x.No, .int .i64 zi4, .int .i64 zi5, .string zs6, .slice za7 zl7 zc7, .slice za8 zl8 zc8] 33) := ⟨_, rfl⟩
  have hA : Below w.heap.size w W := by rw [hW]; exact ((Below.refl _ _).alloc (Nat.le_refl _) _).alloc (by simp) _
  have n1 : W.heap[w.heap.size]? = some (Obj.cells #[.int .i64 x.Pid, .string x.Name, .string x.Mod, .int .i64 x.No, .int .i64 i4, .int .i64 i5, .string s6, .slice a7 l7 c7, .slice a8 l8 c8] 33 (0, 0)) := by rw [hW, Below.heap_alloc _ _ _ (by simp)]; exact heap_alloc_new w _
  have n2 : W.heap[w.heap.size + 1]? = some (Obj.cells #[.int .i64 x.Pid, .string x.Name, .string x.Mod, .int .i64 x.No, .int .i64 zi4, .int .i64 zi5, .string zs6, .slice za7 zl7 zc7, .slice za8 zl8 zc8] 33 (0, 0)) := by rw [hW]; have := heap_alloc_new (w.alloc (Obj.cells #[.int .i64 x.Pid, .string x.Name, .string x.Mod, .int .i64 x.No, .int .i64 i4, .int .i64 i5, .string s6, .slice a7 l7 c7, .slice a8 l8 c8] 33)) (Obj.cells #[.int .i64 x.Pid, .string x.Name, .string x.Mod, .int .i64 x.No, .int .i64 zi4, .int .i64 zi5, .string zs6, .slice za7 zl7 zc7, .slice za8 zl8 zc8] 33); simpa using this
  have H4 : Hid (∀ V : World, Below w.heap.size w V → _) := fun V hV => eqTm_any d [.int .i64 i4, .int .i64 i5, .string s6, .slice a7 l7 c7] [.int .i64 zi4, .int .i64 zi5, .string zs6, .slice za7 zl7 zc7] x.State V (TmR.lasts d _ _ _ _ h0 hV) (TmR.lasts d _ _ _ _ k0 hV) wState
  have H8 : Hid (∀ V : World, Below w.heap.size w V → _) := fun V hV => eqTermS_any (d + 1) (.slice a8 l8 c8) (.slice za8 zl8 zc8) x.Box V (h1.later hV) (k1.later hV) wBox
  have HW : Hid (W = _) := hW
  have HN : Hid (Below w.heap.size w W ∧ _ ∧ _) := ⟨hA, n1, n2⟩
  clear n1 n2 h0 k0 wState h1 k1 wBox
  clear hA
  have hC := H4.out W HN.out.1
  rw [hW] at hC
  clear hW
  go_enter Try.func10, Try.ntmps10
  go_wp2_with fail
  refine hC.mono ?_
  clear hC
  rintro e w4 ⟨rfl, hb4⟩
  rw [← HW.out] at hb4
  have HN4 : Hid (Below w.heap.size w w4 ∧ _ ∧ _) := ⟨HN.out.1.trans (hb4.mono HN.out.1.size), (hb4.block _ (lt_row HN.out.2.1)).trans HN.out.2.1, (hb4.block _ (lt_row HN.out.2.2)).trans HN.out.2.2⟩
  clear hb4
  have f8 : w4.cell? ⟨w.heap.size, 8, none⟩ = some (.slice a8 l8 c8) := by rw [cell_of_row w4 _ 8 _ _ _ HN4.out.2.1]; rfl
  have g8 : w4.cell? ⟨w.heap.size + 1, 8, none⟩ = some (.slice za8 zl8 zc8) := by rw [cell_of_row w4 _ 8 _ _ _ HN4.out.2.2]; rfl
  have hC := H8.out w4 HN4.out.1
  go_wp2_with fail
  refine hC.mono ?_
  clear hC f8 g8
  rintro e w8 ⟨rfl, hb8⟩
  have HN8 : Hid (Below w.heap.size w w8 ∧ _ ∧ _) := ⟨HN4.out.1.trans (hb8.mono HN4.out.1.size), (hb8.block _ (lt_row HN4.out.2.1)).trans HN4.out.2.1, (hb8.block _ (lt_row HN4.out.2.2)).trans HN4.out.2.2⟩
  clear hb8
  go_wp2
  go_ret
  exact ⟨rfl, HN8.out.1⟩

theorem Worker_at {d n c : Nat} {w : World} {a : Option Addr} {m : List (DWorker d)} (h : RowOf 9 (WorkerR d) w (.slice a n c) m) (i : Nat) (x : (DWorker d)) (hx : m[i]? = some x) : ∃ (b o : Nat) (i4 : Int) (i5 : Int) (s6 : ByteArray) (a7 : Option Addr) (l7 c7 : Nat) (a8 : Option Addr) (c8 : Nat), a = some ⟨b, o, none⟩ ∧ w.cell? ⟨b, o + i * 9, none⟩ = some (.int .i64 x.Pid) ∧ w.cell? ⟨b, o + i * 9 + 1, none⟩ = some (.string x.Name) ∧ w.cell? ⟨b, o + i * 9 + 2, none⟩ = some (.string x.Mod) ∧ w.cell? ⟨b, o + i * 9 + 3, none⟩ = some (.int .i64 x.No) ∧ w.cell? ⟨b, o + i * 9 + 4, none⟩ = some (.int .i64 i4) ∧ w.cell? ⟨b, o + i * 9 + 5, none⟩ = some (.int .i64 i5) ∧ w.cell? ⟨b, o + i * 9 + 6, none⟩ = some (.string s6) ∧ w.cell? ⟨b, o + i * 9 + 7, none⟩ = some (.slice a7 l7 c7) ∧ w.cell? ⟨b, o + i * 9 + 8, none⟩ = some (.slice a8 x.Box.length c8) ∧ TmR d w [.int .i64 i4, .int .i64 i5, .string s6, .slice a7 l7 c7] x.State ∧ RdL (d + 1) w (.slice a8 x.Box.length c8) x.Box := by
  obtain ⟨a', c', e, hel⟩ := h
  cases e
  obtain ⟨b, o, vs, h2, h3, h4, v4, v5, v6, v7, v8, rfl, g0, g1⟩ := hel i x hx
  obtain ⟨i4, i5, s6, a7, l7, c7, esh⟩ := TmR.shape d _ _ _ g0
  cases esh
  obtain ⟨a8, c8, rfl⟩ := RdL.len1 g1
  exact ⟨b, o, i4, i5, s6, a7, l7, c7, a8, c8, h2, h4 0 _ rfl, h4 1 _ rfl, h4 2 _ rfl, h4 3 _ rfl, h4 4 _ rfl, h4 5 _ rfl, h4 6 _ rfl, h4 7 _ rfl, h4 8 _ rfl, g0, g1⟩

theorem Try.cellsWorker : Try.prog.cellsOf 26 = 9 := by kernel_rfl
section
variable {H : Type} {enc : TypeId × Value → H} {W : World} {base : Nat} {spare : Nat → Bool} {held : Bool}

set_option maxRecDepth 100000 in
theorem read_WorkerC (m d : Nat) (hd : m ≤ d) (cs : List Value) (x : DataW H × List MemPlace) (h : DataW.trod enc Try.prog W base spare held m 26 cs = some x) (hl : cs.length = 9) : ∃ f : DWorker d, WorkerR d W cs f ∧ WfWorker d f := by
  obtain ⟨c0, c1, c2, c3, c4, c5, c6, c7, c8, rfl⟩ : ∃ c0 c1 c2 c3 c4 c5 c6 c7 c8, cs = [c0, c1, c2, c3, c4, c5, c6, c7, c8] := by
    match cs, hl with
    | [c0, c1, c2, c3, c4, c5, c6, c7, c8], _ => exact ⟨c0, c1, c2, c3, c4, c5, c6, c7, c8, rfl⟩
  obtain ⟨xs, m, rfl, _, _, hxl, hf⟩ := DataW.trod_struct Try.underlying26 h
  have hxl' : xs.length = 6 := hxl
  have h0 : DataW.trod enc Try.prog W base spare held m 3 [c0] = xs[0]? := by have := hf 0 _ rfl; simpa [Try.cells3, Try.cells9, Try.cellsTerm, Try.cellsTerms] using this
  have h1 : DataW.trod enc Try.prog W base spare held m 9 [c1] = xs[1]? := by have := hf 1 _ rfl; simpa [Try.cells3, Try.cells9, Try.cellsTerm, Try.cellsTerms] using this
  have h2 : DataW.trod enc Try.prog W base spare held m 9 [c2] = xs[2]? := by have := hf 2 _ rfl; simpa [Try.cells3, Try.cells9, Try.cellsTerm, Try.cellsTerms] using this
  have h3 : DataW.trod enc Try.prog W base spare held m 3 [c3] = xs[3]? := by have := hf 3 _ rfl; simpa [Try.cells3, Try.cells9, Try.cellsTerm, Try.cellsTerms] using this
  have h4 : DataW.trod enc Try.prog W base spare held m 24 [c4, c5, c6, c7] = xs[4]? := by have := hf 4 _ rfl; simpa [Try.cells3, Try.cells9, Try.cellsTerm, Try.cellsTerms] using this
  have h5 : DataW.trod enc Try.prog W base spare held m 22 [c8] = xs[5]? := by have := hf 5 _ rfl; simpa [Try.cells3, Try.cells9, Try.cellsTerm, Try.cellsTerms] using this
  rw [List.getElem?_eq_getElem (by omega)] at h0 h1 h2 h3 h4 h5
  obtain ⟨x0, e0, _, q0⟩ := DataW.trod_int Try.underlying3 h0
  obtain ⟨x1, e1, _, q1⟩ := DataW.trod_string Try.underlying9 h1
  obtain ⟨x2, e2, _, q2⟩ := DataW.trod_string Try.underlying9 h2
  obtain ⟨x3, e3, _, q3⟩ := DataW.trod_int Try.underlying3 h3
  simp only [List.cons.injEq, and_true] at e0 e1 e2 e3
  subst e0 e1 e2 e3
  obtain ⟨x4, r4, q4⟩ := read_tm (d := d) (by omega) h4 rfl
  obtain ⟨x5, r5, q5⟩ := read_terms m (d + 1) (by omega) _ _ h5
  exact ⟨⟨x0, x1, x2, x3, x4, x5⟩, ⟨_, _, _, _, _, rfl, r4, r5⟩, bounds_i64 q0, q1, q2, bounds_i64 q3, q4, q5⟩

set_option maxRecDepth 100000 in
theorem read_Worker {r : Reach} {b0 : Nat} {v : Value} {x : DataW H} {p : List MemPlace} (hv : Value.okWide Try.prog W r b0 26 v) (h : DataW.Trod enc Try.prog W base spare held 26 v x p) :
    ∃ M, ∀ d, M ≤ d → ∃ (vs : List Value) (e : DWorker d), v = .agg vs.toArray ∧ WorkerR d W vs e ∧ WfWorker d e := by
  obtain ⟨cs, rfl, hsz⟩ := okWide_struct Try.underlying26 hv
  obtain ⟨fuel, hf⟩ := h
  have hf' : DataW.trod enc Try.prog W base spare held fuel 26 cs.toList = some (x, p) := hf
  refine ⟨fuel, fun d hd => ?_⟩
  obtain ⟨e, h1, h2⟩ := read_WorkerC fuel d hd cs.toList _ hf' (by have := hsz.trans Try.cellsWorker; simpa using this)
  exact ⟨cs.toList, e, by simp, h1, h2⟩
end

end Go.Proofs.Ytfachfimdenapaa

/- A worker is right: the model's. -/
namespace Go.Proofs.Ytfachfimdenapaa
open Go.RowKit
set_option linter.unusedVariables false

def pWorkerOk (d : Nat) (x : DWorker d) : Prop := (∀ (i : Nat) (t : Tm (d + 1)), x.Box[i]? = some t → RightT d t) ∧ inI x.Pid 1 1000000 = true ∧ AtomP x.Name ∧ AtomP x.Mod ∧ inI x.No 1 10000 = true ∧ RightT d x.State ∧ x.Box.length ≤ 20

set_option maxRecDepth 100000 in
set_option maxHeartbeats 4000000 in
theorem specWorkerOk_any (d : Nat) (vs : List Value) (x : DWorker d) (w : World) (hr : WorkerR d w vs x) (hw : WfWorker d x) (hz : szWorkerD d x ≤ 1048576) :
    Calls Try.prog 7 #[.agg vs.toArray] w fun e w' => BRes (pWorkerOk d x) w e w' := by
  have hz' : x.Name.size + (x.Mod.size + (szTm d x.State + szL (d + 1) x.Box)) ≤ 1048576 := hz
  obtain ⟨v4, v5, v6, v7, v8, rfl, h0, h1⟩ := hr
  have HTm : Hid (∀ V : World, Below w.heap.size w V → TmR d V [v4, v5, v6, v7] x.State) := fun V hV => TmR.lasts d _ _ _ _ h0 hV
  obtain ⟨i4, i5, s6, a7, l7, c7, esh⟩ := TmR.shape d _ _ _ h0
  cases esh
  obtain ⟨a, c, rfl⟩ := RdL.len1 h1
  have HE : Hid (RdL (d + 1) w (.slice a x.Box.length c) x.Box) := h1
  have HWB : Hid (WfL (d + 1) x.Box ∧ WfTm d x.State ∧ x.Name.size ≤ 9223372036854775807 ∧ x.Mod.size ≤ 9223372036854775807) := ⟨hw.2.2.2.2.2, hw.2.2.2.2.1, len_max hw.2.1, len_max hw.2.2.1⟩
  have hbl := szL_len x.Box
  obtain ⟨len, hl⟩ : ∃ l, x.Box.length = l := ⟨_, rfl⟩
  have HL : Hid (x.Box.length = len) := hl
  rw [hl] at HE hbl ⊢
  have hlen : len ≤ 1048576 := by omega
  clear h0 h1 hl hz hz' hbl hw
  obtain ⟨W, hW⟩ : ∃ W, W = w.alloc (.cells #[.int .i64 x.Pid, .string x.Name, .string x.Mod, .int .i64 x.No, .int .i64 i4, .int .i64 i5, .string s6, .slice a7 l7 c7, .slice a len c] 33) := ⟨_, rfl⟩
  have HA : Hid (Below w.heap.size w W) := by rw [hW]; exact (Below.refl _ _).alloc (Nat.le_refl _) _
  have n1 : W.heap[w.heap.size]? = some (.cells #[.int .i64 x.Pid, .string x.Name, .string x.Mod, .int .i64 x.No, .int .i64 i4, .int .i64 i5, .string s6, .slice a7 l7 c7, .slice a len c] 33 (0, 0)) := by rw [hW]; exact heap_alloc_new w _
  have HB : Hid (W.heap[w.heap.size]? = some (.cells #[.int .i64 x.Pid, .string x.Name, .string x.Mod, .int .i64 x.No, .int .i64 i4, .int .i64 i5, .string s6, .slice a7 l7 c7, .slice a len c] 33 (0, 0))) := n1
  clear n1
  go_enter Try.func7, Try.ntmps7
  go_wp2_with fail
  rw [← hW]
  clear hW
  go_loopw [3] (fun i wr => ∃ k : Nat, k ≤ len ∧ i = .int .i64 k ∧ Below W.heap.size W wr ∧ Hid (∀ (j : Nat) (g : Tm (d + 1)), j < k → x.Box[j]? = some g → RightT d g)) (fun i _ => len - (intOf i).toNat)
  case atStart => exact ⟨0, Nat.zero_le _, rfl, Below.refl _ _, fun j g hj => absurd hj (Nat.not_lt_zero _)⟩
  case round =>
    obtain ⟨k, hk, rfl, hbw, HN⟩ := hrel
    have HBX : Hid (Below W.heap.size W wr) := hbw
    have HBW : Hid (Below w.heap.size w wr) := HA.out.trans (hbw.mono HA.out.size)
    have hbx := (hbw.block _ (lt_row HB.out)).trans HB.out
    have d8 : wr.cell? ⟨w.heap.size, 8, none⟩ = some (.slice a len c) := by rw [cell_of_row wr _ 8 _ _ _ hbx]; rfl
    clear hbw
    by_cases hkl : k < len
    · obtain ⟨t, ht⟩ : ∃ t, x.Box[k]? = some t := ⟨_, List.getElem?_eq_getElem (by have := HL.out; omega)⟩
      obtain ⟨b, o, la, ll, lc, rfl, q0, q1, q2, q3, q4⟩ := terms_at HE.out k t ht
      have q0' := cell_later HBW.out q0
      have q1' := cell_later HBW.out q1
      have q2' := cell_later HBW.out q2
      have q3' := cell_later HBW.out q3
      have hkl' : (k : Int) < (len : Int) := by omega
      have HT : Hid (x.Box[k]? = some t) := ht
      have hC := specTm_any d _ t wr (TmR.lasts d _ _ _ _ q4 HBW.out) (wf_term HWB.out.1 ht)
      clear ht q0 q1 q2 q3 q4 hbx
      go_wp2_with fail
      refine hC.mono ?_
      clear hC d8 q0' q1' q2' q3'
      rintro e V ⟨bb, rfl, hbb, hB⟩
      have HBV : Hid (Below W.heap.size W V ∧ Below w.heap.size w V) := ⟨HBX.out.trans (hB.mono HBX.out.size), HBW.out.trans (hB.mono HBW.out.size)⟩
      have HBB : Hid (bb = true ↔ RightT d t) := hbb
      clear hB hbb
      cases bb with
      | false =>
        have HF : Hid (¬ pWorkerOk d x) := fun h => by have := HBB.out.2 (h.1 k t HT.out); cases this
        clear HN
        go_wp2_with fail
        go_ret
        exact bres_no HF.out HBV.out.2
      | true =>
        have HF : Hid (∀ (j : Nat) (g : Tm (d + 1)), j < k + 1 → x.Box[j]? = some g → RightT d g) := fun j g hj hg => by
          rcases Nat.lt_or_ge j k with u | u
          · exact HN.out j g u hg
          · obtain rfl : j = k := by omega
            have := HT.out.symm.trans hg
            cases this
            exact HBB.out.1 rfl
        clear HN
        go_wp2_with fail
        go_roundw
        case rel => exact ⟨k + 1, by omega, by go_num, HBV.out.1, HF⟩
        case measure => simp [intOf]; omega
    · obtain rfl : k = len := by omega
      have hkl' : decide ((k : Int) < (k : Int)) = false := by simp
      have HAL : Hid (∀ (j : Nat) (g : Tm (d + 1)), x.Box[j]? = some g → RightT d g) := fun j g hg => HN.out j g (by have := (List.getElem?_eq_some_iff.1 hg).1; have := HL.out; omega) hg
      have d0 : wr.cell? ⟨w.heap.size, 0, none⟩ = some (.int .i64 x.Pid) := by rw [cell_of_row wr _ 0 _ _ _ hbx]; rfl
      have d1 : wr.cell? ⟨w.heap.size, 1, none⟩ = some (.string x.Name) := by rw [cell_of_row wr _ 1 _ _ _ hbx]; rfl
      have d2 : wr.cell? ⟨w.heap.size, 2, none⟩ = some (.string x.Mod) := by rw [cell_of_row wr _ 2 _ _ _ hbx]; rfl
      have d3 : wr.cell? ⟨w.heap.size, 3, none⟩ = some (.int .i64 x.No) := by rw [cell_of_row wr _ 3 _ _ _ hbx]; rfl
      have d4 : wr.cell? ⟨w.heap.size, 4, none⟩ = some (.int .i64 i4) := by rw [cell_of_row wr _ 4 _ _ _ hbx]; rfl
      have d5 : wr.cell? ⟨w.heap.size, 5, none⟩ = some (.int .i64 i5) := by rw [cell_of_row wr _ 5 _ _ _ hbx]; rfl
      have d6 : wr.cell? ⟨w.heap.size, 6, none⟩ = some (.string s6) := by rw [cell_of_row wr _ 6 _ _ _ hbx]; rfl
      have d7 : wr.cell? ⟨w.heap.size, 7, none⟩ = some (.slice a7 l7 c7) := by rw [cell_of_row wr _ 7 _ _ _ hbx]; rfl
      clear HN
      have hC := inI_any x.Pid 1 1000000 wr
      go_wp2_with fail
      refine hC.mono ?_
      clear hC
      rintro e V0 ⟨rfl, hw0⟩
      subst hw0
      obtain ⟨b0, hb0⟩ : ∃ b, inI x.Pid 1 1000000 = b := ⟨_, rfl⟩
      have HB0 : Hid (inI x.Pid 1 1000000 = b0) := hb0
      rw [hb0]
      clear hb0
      cases b0 with
      | false =>
        have HF : Hid (¬ pWorkerOk d x) := fun h => by have := HB0.out.symm.trans h.2.1; cases this
        go_wp2_with fail
        go_ret
        exact bres_no HF.out HBW.out
      | true =>
        have hC := specAtomOk_any x.Name wr HWB.out.2.2.1
        go_wp2_with fail
        refine hC.mono ?_
        clear hC
        rintro e V1 ⟨b1, rfl, hb1, hw1⟩
        subst hw1
        have HB1 : Hid (b1 = true ↔ _) := hb1
        clear hb1
        cases b1 with
        | false =>
          have HF : Hid (¬ pWorkerOk d x) := fun h => by have := HB1.out.2 h.2.2.1; cases this
          go_wp2_with fail
          go_ret
          exact bres_no HF.out HBW.out
        | true =>
          have hC := specAtomOk_any x.Mod wr HWB.out.2.2.2
          go_wp2_with fail
          refine hC.mono ?_
          clear hC
          rintro e V2 ⟨b2, rfl, hb2, hw2⟩
          subst hw2
          have HB2 : Hid (b2 = true ↔ _) := hb2
          clear hb2
          cases b2 with
          | false =>
            have HF : Hid (¬ pWorkerOk d x) := fun h => by have := HB2.out.2 h.2.2.2.1; cases this
            go_wp2_with fail
            go_ret
            exact bres_no HF.out HBW.out
          | true =>
            have hC := inI_any x.No 1 10000 wr
            go_wp2_with fail
            refine hC.mono ?_
            clear hC
            rintro e V3 ⟨rfl, hw3⟩
            subst hw3
            obtain ⟨b3, hb3⟩ : ∃ b, inI x.No 1 10000 = b := ⟨_, rfl⟩
            have HB3 : Hid (inI x.No 1 10000 = b3) := hb3
            rw [hb3]
            clear hb3
            cases b3 with
            | false =>
              have HF : Hid (¬ pWorkerOk d x) := fun h => by have := HB3.out.symm.trans h.2.2.2.2.1; cases this
              go_wp2_with fail
              go_ret
              exact bres_no HF.out HBW.out
            | true =>
              have hC := specTm_any d _ x.State wr (HTm.out wr HBW.out) HWB.out.2.1
              go_wp2_with fail
              refine hC.mono ?_
              clear hC d0 d1 d2 d3 d4 d5 d6 d7 d8
              rintro e V4 ⟨b4, rfl, hb4, hB4⟩
              have HB4 : Hid (b4 = true ↔ _) := hb4
              have HBE : Hid (Below w.heap.size w V4) := HBW.out.trans (hB4.mono HBW.out.size)
              have d8 : V4.cell? ⟨w.heap.size, 8, none⟩ = some (.slice a k c) := by rw [cell_of_row V4 _ 8 _ _ _ ((hB4.block _ (lt_row hbx)).trans hbx)]; rfl
              clear hb4 hB4 hbx
              cases b4 with
              | false =>
                have HF : Hid (¬ pWorkerOk d x) := fun h => by have := HB4.out.2 h.2.2.2.2.2.1; cases this
                go_wp2_with fail
                go_ret
                exact bres_no HF.out HBE.out
              | true =>
                by_cases h20 : k ≤ 20
                · have HF : Hid (pWorkerOk d x) := ⟨HAL.out, HB0.out, HB1.out.1 (by simp), HB2.out.1 (by simp), HB3.out, HB4.out.1 (by simp), by rw [HL.out]; exact h20⟩
                  have h20' : decide ((k : Int) ≤ 20) = true := decide_eq_true (by omega)
                  go_wp2_with fail
                  go_ret
                  exact bres_yes HF.out HBE.out
                · have HF : Hid (¬ pWorkerOk d x) := fun h => h20 (by have := h.2.2.2.2.2.2; rw [HL.out] at this; exact this)
                  have h20' : decide ((k : Int) ≤ 20) = false := decide_eq_false (by omega)
                  go_wp2_with fail
                  go_ret
                  exact bres_no HF.out HBE.out

end Go.Proofs.Ytfachfimdenapaa

/- A word put to a worker: what comes of it, as data. -/
namespace Go.Proofs.Ytfachfimdenapaa
open Go.RowKit
set_option linter.unusedVariables false

/-- A worker with one word more. -/
def putW {d : Nat} (x : DWorker d) (t : Tm (d + 1)) : DWorker d := ⟨x.Pid, x.Name, x.Mod, x.No, x.State, x.Box ++ [t]⟩
/-- What is answered. -/
def PwT {d : Nat} (x : DWorker d) (t : Tm (d + 1)) (y : DWorker d) (ok : Bool) : Prop :=
  (ok = true ∧ (pWorkerOk d x ∧ RightT d t ∧ x.Box.length < 20) ∧ y = putW x t) ∨ (ok = false ∧ ¬ (pWorkerOk d x ∧ RightT d t ∧ x.Box.length < 20) ∧ y = x)
theorem PwT.same {d : Nat} {x : DWorker d} {t : Tm (d + 1)} {y y' : DWorker d} {ok ok' : Bool} (h : PwT x t y ok) (h' : PwT x t y' ok') : ok = ok' ∧ y = y' := by
  rcases h with ⟨h1, h2, h3⟩ | ⟨h1, h2, h3⟩ <;> rcases h' with ⟨j1, j2, j3⟩ | ⟨j1, j2, j3⟩
  · exact ⟨h1.trans j1.symm, h3.trans j3.symm⟩
  · exact absurd h2 j2
  · exact absurd j2 h2
  · exact ⟨h1.trans j1.symm, h3.trans j3.symm⟩

end Go.Proofs.Ytfachfimdenapaa
