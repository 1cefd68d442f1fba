/- A struct of the laws as data: Over; the law's own measure, copy and comparison of it; how it is read. -/
import Derived.Test.YtgmddookohkhlaaDt0M
import Derived.Test.YtgmddookohkhlaaOkM
import Derived.Test.YtgmddookohkhlaaRowOverM
namespace Go.Proofs.Ytgmddookohkhlaa
open Go.RowKit Go.ChangeShapes Go.WideShapes Go.Joins Go.Deep
set_option linter.unusedVariables false

structure DOver (d : Nat) where
  Way : Int
  MaxR : Int
  MaxT : Int
  Kids : List (DKid d)
  Pids : List Int
  Times : List Int
  Down : Bool


def OverR (d : Nat) (w : World) (vs : List Value) (x : DOver d) : Prop := ∃ v3 v4 v5, vs = [.int .i64 x.Way, .int .i64 x.MaxR, .int .i64 x.MaxT, v3, v4, v5, .bool x.Down] ∧ RowOf 7 (KidR d) w v3 x.Kids ∧ RowOf 1 InR w v4 x.Pids ∧ RowOf 1 InR w v5 x.Times

def OverO (d : Nat) (w : World) (vs : List Value) (x : DOver d) (fp : List Nat) : Prop := ∃ v3 v4 v5 f0 f1 f2, vs = [.int .i64 x.Way, .int .i64 x.MaxR, .int .i64 x.MaxT, v3, v4, v5, .bool x.Down] ∧ fp = f0 ++ (f1 ++ (f2)) ∧ OwnRow 7 55 (KidO d) w v3 x.Kids f0 ∧ OwnRow 1 3 InO w v4 x.Pids f1 ∧ OwnRow 1 3 InO w v5 x.Times f2

def WfOver (d : Nat) (x : DOver d) : Prop := I64 x.Way ∧ I64 x.MaxR ∧ I64 x.MaxT ∧ WfRow (WfKid d) x.Kids ∧ WfRow I64 x.Pids ∧ WfRow I64 x.Times

def szOverD (d : Nat) (x : DOver d) : Nat := szRow (szKidD d) x.Kids + (szRow szI x.Pids + (szRow szI x.Times))

theorem OverR.lasts (d : Nat) : Lasts (OverR d) := by
  rintro w w' vs x ⟨v3, v4, v5, rfl, h0, h1, h2⟩ hb
  exact ⟨v3, v4, v5, rfl, (h0.later (KidR.lasts d) hb), (h1.later InR.lasts hb), (h2.later InR.lasts hb)⟩

theorem OverO.lasts (d : Nat) : LastsO (OverO d) := by
  rintro w w' vs x fp ⟨v3, v4, v5, f0, f1, f2, rfl, rfl, h0, h1, h2⟩ hb
  exact ⟨v3, v4, v5, _, _, _, rfl, rfl, h0.frame (KidO.lasts d) fun j hj => hb j (List.mem_append_left _ hj), h1.frame InO.lasts fun j hj => hb j (List.mem_append_right _ (List.mem_append_left _ hj)), h2.frame InO.lasts fun j hj => hb j (List.mem_append_right _ (List.mem_append_right _ (hj)))⟩

theorem OverO.reads (d : Nat) : Reads (OverO d) (OverR d) := by
  rintro w vs x fp ⟨v3, v4, v5, f0, f1, f2, rfl, rfl, h0, h1, h2⟩
  exact ⟨v3, v4, v5, rfl, (h0.rd (KidO.reads d)), (h1.rd InO.reads), (h2.rd InO.reads)⟩

theorem OverR.shape (d : Nat) : ∀ w vs x, OverR d w vs x → ShOver vs := by
  rintro w vs x ⟨v3, v4, v5, rfl, h0, h1, h2⟩
  obtain ⟨q0a3, q0l3, q0c3, rfl⟩ := h0.sl
  obtain ⟨q1a4, q1l4, q1c4, rfl⟩ := h1.sl
  obtain ⟨q2a5, q2l5, q2c5, rfl⟩ := h2.sl
  exact ⟨_, _, _, _, _, _, _, _, _, _, _, _, _, rfl⟩

theorem OverO.shape (d : Nat) : ∀ w vs x fp, OverO d w vs x fp → ShOver vs := fun w vs x fp h => OverR.shape d w vs x (OverO.reads d w vs x fp h)

set_option maxHeartbeats 4000000 in
theorem szOver_any (d : Nat) : SzEl 7 (OverR d) (WfOver d) (szOverD d) := by
  rintro vs x left w ⟨v3, v4, v5, rfl, h0, h1, h2⟩ ⟨wWay, wMaxR, wMaxT, wKids, wPids, wTimes⟩ hl0 hm
  obtain ⟨a3, l3, c3, rfl⟩ := h0.sl
  obtain ⟨a4, l4, c4, rfl⟩ := h1.sl
  obtain ⟨a5, l5, c5, rfl⟩ := h2.sl
  obtain ⟨W, hW⟩ : ∃ W, W = w.alloc (Obj.cells #[.int .i64 x.Way, .int .i64 x.MaxR, .int .i64 x.MaxT, .slice a3 l3 c3, .slice a4 l4 c4, .slice a5 l5 c5, .bool x.Down] 25) := ⟨_, rfl⟩
  have hA : Below w.heap.size w W := by rw [hW]; exact (Below.refl _ _).alloc (Nat.le_refl _) _
  have hWc : W.heap[w.heap.size]? = some (Obj.cells #[.int .i64 x.Way, .int .i64 x.MaxR, .int .i64 x.MaxT, .slice a3 l3 c3, .slice a4 l4 c4, .slice a5 l5 c5, .bool x.Down] 25 (0, 0)) := by rw [hW]; exact heap_alloc_new w _
  obtain ⟨A3, hA3⟩ : ∃ A, szRow (szKidD d) x.Kids = A := ⟨_, rfl⟩
  obtain ⟨A4, hA4⟩ : ∃ A, szRow szI x.Pids = A := ⟨_, rfl⟩
  obtain ⟨A5, hA5⟩ : ∃ A, szRow szI x.Times = A := ⟨_, rfl⟩
  have e0 : szOverD d x = A3 + (A4 + (A5)) := by rw [← hA3]; rw [← hA4]; rw [← hA5]; rfl
  rw [e0]
  obtain ⟨TL, hTL⟩ : ∃ L, lft left (A3 + (A4 + (A5))) = L := ⟨_, rfl⟩
  rw [hTL]
  have H3 : Hid (∀ V : World, Below w.heap.size w V → ∀ l : Int, 0 ≤ l → l ≤ 1048576 → _) := fun V hV l p1 p2 => szKidS_any d (.slice a3 l3 c3) x.Kids l V (h0.later (KidR.lasts d) hV) wKids p1 p2
  rw [hA3] at H3
  have H4 : Hid (∀ V : World, Below w.heap.size w V → ∀ l : Int, 0 ≤ l → l ≤ 1048576 → _) := fun V hV l p1 p2 => szInts_any (.slice a4 l4 c4) x.Pids l V (h1.later InR.lasts hV) wPids p1 p2
  rw [hA4] at H4
  have H5 : Hid (∀ V : World, Below w.heap.size w V → ∀ l : Int, 0 ≤ l → l ≤ 1048576 → _) := fun V hV l p1 p2 => szInts_any (.slice a5 l5 c5) x.Times l V (h2.later InR.lasts hV) wTimes p1 p2
  rw [hA5] at H5
  have HW : Hid (W = _) := hW
  have HT0 : Hid (TL = lft left (A3 + (A4 + (A5)))) := hTL.symm
  have HB0 : Hid (Below w.heap.size w W ∧ W.heap[w.heap.size]? = some (Obj.cells #[.int .i64 x.Way, .int .i64 x.MaxR, .int .i64 x.MaxT, .slice a3 l3 c3, .slice a4 l4 c4, .slice a5 l5 c5, .bool x.Down] 25 (0, 0))) := ⟨hA, hWc⟩
  clear e0 hTL hW hA hWc hA3 h0 wKids hA4 h1 wPids hA5 h2 wTimes
  have hC := H3.out W HB0.out.1 left (by omega) (by omega)
  obtain ⟨y3, hy3⟩ : ∃ y, lft left A3 = y := ⟨_, rfl⟩
  have HL3 : Hid (_ ∧ _) := lft_two left A3 (A4 + (A5)) (by omega)
  rw [hy3] at hC HL3
  clear hy3
  rw [HW.out] at hC
  go_enter Try.func7, Try.ntmps7
  go_wp2_with fail
  refine hC.mono ?_
  clear hC
  rintro e w3 ⟨rfl, hb3⟩
  rw [← HW.out] at hb3
  have HB4 : Hid (Below w.heap.size w w3 ∧ w3.heap[w.heap.size]? = some (Obj.cells #[.int .i64 x.Way, .int .i64 x.MaxR, .int .i64 x.MaxT, .slice a3 l3 c3, .slice a4 l4 c4, .slice a5 l5 c5, .bool x.Down] 25 (0, 0))) := ⟨HB0.out.1.trans (hb3.mono HB0.out.1.size), (hb3.block _ (lt_row HB0.out.2)).trans HB0.out.2⟩
  clear hb3
  by_cases hneg : y3 < 0
  · have HF : Hid ((-1 : Int) = TL) := by show _ = _; rw [HT0.out]; exact (HL3.out.1 (by omega)).symm
    go_wp2
    go_ret
    exact ⟨tret1 HF.out, HB4.out.1⟩
  · obtain ⟨E1, E2, E3⟩ := HL3.out.2 (by omega)
    have HT4 : Hid (TL = lft y3 (A4 + (A5))) := by show _ = _; rw [HT0.out]; exact E1.symm
    have hm3 : y3 ≤ 1048576 := by omega
    clear E1
    have f4 : w3.cell? ⟨w.heap.size, 4, none⟩ = some (.slice a4 l4 c4) := by rw [cell_of_row w3 _ 4 _ _ _ HB4.out.2]; rfl
    have f5 : w3.cell? ⟨w.heap.size, 5, none⟩ = some (.slice a5 l5 c5) := by rw [cell_of_row w3 _ 5 _ _ _ HB4.out.2]; rfl
    have f6 : w3.cell? ⟨w.heap.size, 6, none⟩ = some (.bool x.Down) := by rw [cell_of_row w3 _ 6 _ _ _ HB4.out.2]; rfl
    have hC := H4.out w3 HB4.out.1 y3 (by omega) (by omega)
    obtain ⟨y4, hy4⟩ : ∃ y, lft y3 A4 = y := ⟨_, rfl⟩
    have HL4 : Hid (_ ∧ _) := lft_two y3 A4 (A5) (by omega)
    rw [hy4] at hC HL4
    clear hy4
    go_wp2_with fail
    refine hC.mono ?_
    clear hC
    rintro e w4 ⟨rfl, hb4⟩
    have HB5 : Hid (Below w.heap.size w w4 ∧ w4.heap[w.heap.size]? = some (Obj.cells #[.int .i64 x.Way, .int .i64 x.MaxR, .int .i64 x.MaxT, .slice a3 l3 c3, .slice a4 l4 c4, .slice a5 l5 c5, .bool x.Down] 25 (0, 0))) := ⟨HB4.out.1.trans (hb4.mono HB4.out.1.size), (hb4.block _ (lt_row HB4.out.2)).trans HB4.out.2⟩
    clear hb4
    by_cases hneg : y4 < 0
    · have HF : Hid ((-1 : Int) = TL) := by show _ = _; rw [HT4.out]; exact (HL4.out.1 (by omega)).symm
      go_wp2
      go_ret
      exact ⟨tret1 HF.out, HB5.out.1⟩
    · obtain ⟨E1, E2, E3⟩ := HL4.out.2 (by omega)
      have HT5 : Hid (TL = lft y4 (A5)) := by show _ = _; rw [HT4.out]; exact E1.symm
      have hm4 : y4 ≤ 1048576 := by omega
      clear E1
      have f5 : w4.cell? ⟨w.heap.size, 5, none⟩ = some (.slice a5 l5 c5) := by rw [cell_of_row w4 _ 5 _ _ _ HB5.out.2]; rfl
      have f6 : w4.cell? ⟨w.heap.size, 6, none⟩ = some (.bool x.Down) := by rw [cell_of_row w4 _ 6 _ _ _ HB5.out.2]; rfl
      have hC := H5.out w4 HB5.out.1 y4 (by omega) (by omega)
      obtain ⟨y5, hy5⟩ : ∃ y, lft y4 A5 = y := ⟨_, rfl⟩
      have HL5 : Hid (y5 < 0 → y5 = -1) := fun h => by rw [← hy5] at h ⊢; exact lft_neg _ _ h
      have HM5 : Hid (TL = y5) := HT5.out.trans hy5
      rw [hy5] at hC
      clear hy5
      go_wp2_with fail
      refine hC.mono ?_
      clear hC
      rintro e w5 ⟨rfl, hb5⟩
      have HB6 : Hid (Below w.heap.size w w5 ∧ w5.heap[w.heap.size]? = some (Obj.cells #[.int .i64 x.Way, .int .i64 x.MaxR, .int .i64 x.MaxT, .slice a3 l3 c3, .slice a4 l4 c4, .slice a5 l5 c5, .bool x.Down] 25 (0, 0))) := ⟨HB5.out.1.trans (hb5.mono HB5.out.1.size), (hb5.block _ (lt_row HB5.out.2)).trans HB5.out.2⟩
      clear hb5
      by_cases hneg : y5 < 0
      · have HF : Hid ((-1 : Int) = TL) := by show _ = _; rw [HM5.out]; exact (HL5.out (by omega)).symm
        go_wp2
        go_ret
        exact ⟨tret1 HF.out, HB6.out.1⟩
      · have HF : Hid (y5 = TL) := HM5.out.symm
        go_wp2
        go_ret
        exact ⟨tret1 HF.out, HB6.out.1⟩

theorem szOverS_any (d : Nat) : SzLs 12 7 (OverR d) (WfOver d) (szOverD d) := szOverS_of _ _ _ (OverR.lasts d) (OverR.shape d) (szOver_any d)

set_option maxHeartbeats 4000000 in
theorem toOver_any (d : Nat) : ToEl 9 (OverR d) (OverO d) (WfOver d) (szOverD d) := by
  rintro vs x w ⟨v3, v4, v5, rfl, h0, h1, h2⟩ ⟨wWay, wMaxR, wMaxT, wKids, wPids, wTimes⟩ hz
  have hz' : szRow (szKidD d) x.Kids + (szRow szI x.Pids + (szRow szI x.Times)) ≤ 1048576 := hz
  obtain ⟨a3, l3, c3, rfl⟩ := h0.sl
  obtain ⟨a4, l4, c4, rfl⟩ := h1.sl
  obtain ⟨a5, l5, c5, rfl⟩ := h2.sl
  obtain ⟨W, hW⟩ : ∃ W, W = ((w.alloc (Obj.cells #[.int .i64 x.Way, .int .i64 x.MaxR, .int .i64 x.MaxT, .slice a3 l3 c3, .slice a4 l4 c4, .slice a5 l5 c5, .bool x.Down] 25)).alloc (.cells #[.int .i64 0, .int .i64 0, .int .i64 0, .slice none 0 0, .slice none 0 0, .slice none 0 0, .bool false] 30)).alloc (.cells #[.int .i64 x.Way, .int .i64 x.MaxR, .int .i64 x.MaxT, .slice none 0 0, .slice none 0 0, .slice none 0 0, .bool false] 30) := ⟨_, rfl⟩
  obtain ⟨nA, nB, nC⟩ := heap_three w (Obj.cells #[.int .i64 x.Way, .int .i64 x.MaxR, .int .i64 x.MaxT, .slice a3 l3 c3, .slice a4 l4 c4, .slice a5 l5 c5, .bool x.Down] 25) (.cells #[.int .i64 0, .int .i64 0, .int .i64 0, .slice none 0 0, .slice none 0 0, .slice none 0 0, .bool false] 30) (.cells #[.int .i64 x.Way, .int .i64 x.MaxR, .int .i64 x.MaxT, .slice none 0 0, .slice none 0 0, .slice none 0 0, .bool false] 30)
  rw [← hW] at nA nB nC
  have hWb : Below w.heap.size w W := by rw [hW]; exact (((Below.refl _ _).alloc (Nat.le_refl _) _).alloc (by simp) _).alloc (by simp; omega) _
  have hWs : W.heap.size = w.heap.size + 1 + 1 + 1 := by rw [hW]; simp
  have H3 : Hid (∀ V : World, Below w.heap.size w V → _) := fun V hV => toKidS_any d (.slice a3 l3 c3) x.Kids V (h0.later (KidR.lasts d) hV) wKids (by omega)
  have H4 : Hid (∀ V : World, Below w.heap.size w V → _) := fun V hV => toInts_any (.slice a4 l4 c4) x.Pids V (h1.later InR.lasts hV) wPids (by omega)
  have H5 : Hid (∀ V : World, Below w.heap.size w V → _) := fun V hV => toInts_any (.slice a5 l5 c5) x.Times V (h2.later InR.lasts hV) wTimes (by omega)
  have HW : Hid (W = _) := hW
  have HBW : Hid (Below w.heap.size w W) := hWb
  have HN : Hid (_ ∧ _ ∧ _) := ⟨nA, nB, nC⟩
  clear hW nA nB nC hWb hz hz' h0 wKids h1 wPids h2 wTimes
  have hC := H3.out W HBW.out
  rw [HW.out] at hC
  go_enter Try.func9, Try.ntmps9
  go_wp2_with fail
  refine hC.mono ?_
  clear hC
  rintro e w3 ⟨ya3, yl3, yc3, fp3, rfl, hown3, hfr3, hb3⟩
  rw [← HW.out] at hfr3 hb3
  obtain ⟨nA, nB, nC⟩ := HN.out
  have zz3 := hb3.size
  have nA3 := (hb3.block _ (lt_row nA)).trans nA
  have nB3 := (hb3.block _ (lt_row nB)).trans nB
  have nC3 := (hb3.block _ (lt_row nC)).trans nC
  obtain ⟨V3, hV3⟩ : ∃ V, V = w3.setCell ⟨w.heap.size + 1 + 1, 3, none⟩ (.slice ya3 yl3 yc3) := ⟨_, rfl⟩
  have hV3' : V3 = setL w3 (w.heap.size + 1 + 1) 3 [.slice ya3 yl3 yc3] := hV3
  have hzV3 : V3.heap.size = w3.heap.size := by rw [hV3']; exact setL_size _ _ _ _
  have hkV : ∀ j, j ≠ w.heap.size + 1 + 1 → V3.heap[j]? = w3.heap[j]? := fun j hj => by rw [hV3']; exact setL_other _ _ _ _ _ hj
  have hbV : Below (w.heap.size + 1 + 1) w3 V3 := by rw [hV3']; exact setL_below _ _ _ _ _ (Nat.le_refl _)
  have nCV : V3.heap[w.heap.size + 1 + 1]? = some (.cells #[.int .i64 x.Way, .int .i64 x.MaxR, .int .i64 x.MaxT, .slice ya3 yl3 yc3, .slice none 0 0, .slice none 0 0, .bool false] 30 (0, 0)) := by rw [hV3']; exact setL_row _ _ _ _ _ _ nC3
  have HN3 : Hid (_ ∧ _ ∧ _) := ⟨(hkV _ (by omega)).trans nA3, (hkV _ (by omega)).trans nB3, nCV⟩
  have HB3 : Hid (Below w.heap.size w V3) := (HBW.out.trans (hb3.mono HBW.out.size)).trans (hbV.mono (by omega))
  have HO3 : Hid (OwnRow 7 55 (KidO d) V3 (.slice ya3 yl3 yc3) x.Kids fp3) := hown3.frame (KidO.lasts d) fun g hg => hkV g (by have := (hfr3.2 g hg).1; omega)
  have HR3 : Hid (fp3.Nodup ∧ ∀ g ∈ fp3, W.heap.size ≤ g ∧ g < w3.heap.size) := ⟨hfr3.1, hfr3.2⟩
  have hC := H4.out V3 HB3.out
  rw [hV3] at hC
  have HV3 : Hid (V3 = _) := hV3
  have f4 : w3.cell? ⟨w.heap.size, 4, none⟩ = some (.slice a4 l4 c4) := by rw [cell_of_row w3 _ 4 _ _ _ nA3]; rfl
  have f5 : w3.cell? ⟨w.heap.size, 5, none⟩ = some (.slice a5 l5 c5) := by rw [cell_of_row w3 _ 5 _ _ _ nA3]; rfl
  have f6 : w3.cell? ⟨w.heap.size, 6, none⟩ = some (.bool x.Down) := by rw [cell_of_row w3 _ 6 _ _ _ nA3]; rfl
  have g3 : w3.cell? ⟨w.heap.size + 1 + 1, 3, none⟩ = some (.slice none 0 0) := by rw [cell_of_row w3 _ 3 _ _ _ nC3]; rfl
  have z3 : w3.frozen? ⟨w.heap.size + 1 + 1, 3, none⟩ = false := frozen_of_row w3 _ _ _ _ nC3
  clear hV3 hV3' nA3 nB3 nC3 nA nB nC nCV hkV hbV hown3 hfr3 hb3 HN
  go_wp2_with fail
  refine hC.mono ?_
  clear hC f4 f5 f6 g3 z3
  rintro e w4 ⟨ya4, yl4, yc4, fp4, rfl, hown4, hfr4, hb4⟩
  rw [← HV3.out] at hfr4 hb4
  obtain ⟨nA, nB, nC⟩ := HN3.out
  have zz4 := hb4.size
  have nA4 := (hb4.block _ (lt_row nA)).trans nA
  have nB4 := (hb4.block _ (lt_row nB)).trans nB
  have nC4 := (hb4.block _ (lt_row nC)).trans nC
  obtain ⟨V4, hV4⟩ : ∃ V, V = w4.setCell ⟨w.heap.size + 1 + 1, 4, none⟩ (.slice ya4 yl4 yc4) := ⟨_, rfl⟩
  have hV4' : V4 = setL w4 (w.heap.size + 1 + 1) 4 [.slice ya4 yl4 yc4] := hV4
  have hzV4 : V4.heap.size = w4.heap.size := by rw [hV4']; exact setL_size _ _ _ _
  have hkV : ∀ j, j ≠ w.heap.size + 1 + 1 → V4.heap[j]? = w4.heap[j]? := fun j hj => by rw [hV4']; exact setL_other _ _ _ _ _ hj
  have hbV : Below (w.heap.size + 1 + 1) w4 V4 := by rw [hV4']; exact setL_below _ _ _ _ _ (Nat.le_refl _)
  have nCV : V4.heap[w.heap.size + 1 + 1]? = some (.cells #[.int .i64 x.Way, .int .i64 x.MaxR, .int .i64 x.MaxT, .slice ya3 yl3 yc3, .slice ya4 yl4 yc4, .slice none 0 0, .bool false] 30 (0, 0)) := by rw [hV4']; exact setL_row _ _ _ _ _ _ nC4
  have HN4 : Hid (_ ∧ _ ∧ _) := ⟨(hkV _ (by omega)).trans nA4, (hkV _ (by omega)).trans nB4, nCV⟩
  have HB4 : Hid (Below w.heap.size w V4) := (HB3.out.trans (hb4.mono HB3.out.size)).trans (hbV.mono (by omega))
  have HO4 : Hid (OwnRow 1 3 InO V4 (.slice ya4 yl4 yc4) x.Pids fp4) := hown4.frame InO.lasts fun g hg => hkV g (by have := (hfr4.2 g hg).1; omega)
  have HO3 : Hid (OwnRow 7 55 (KidO d) V4 (.slice ya3 yl3 yc3) x.Kids fp3) := HO3.out.frame (KidO.lasts d) fun g hg => (hkV g (by have := (HR3.out.2 g hg).1; omega)).trans (hb4.block g (by have := (HR3.out.2 g hg).2; omega))
  have HR4 : Hid (fp4.Nodup ∧ ∀ g ∈ fp4, V3.heap.size ≤ g ∧ g < w4.heap.size) := ⟨hfr4.1, hfr4.2⟩
  have hC := H5.out V4 HB4.out
  rw [hV4] at hC
  have HV4 : Hid (V4 = _) := hV4
  have f5 : w4.cell? ⟨w.heap.size, 5, none⟩ = some (.slice a5 l5 c5) := by rw [cell_of_row w4 _ 5 _ _ _ nA4]; rfl
  have f6 : w4.cell? ⟨w.heap.size, 6, none⟩ = some (.bool x.Down) := by rw [cell_of_row w4 _ 6 _ _ _ nA4]; rfl
  have g4 : w4.cell? ⟨w.heap.size + 1 + 1, 4, none⟩ = some (.slice none 0 0) := by rw [cell_of_row w4 _ 4 _ _ _ nC4]; rfl
  have z4 : w4.frozen? ⟨w.heap.size + 1 + 1, 4, none⟩ = false := frozen_of_row w4 _ _ _ _ nC4
  clear hV4 hV4' nA4 nB4 nC4 nA nB nC nCV hkV hbV hown4 hfr4 hb4 HN3
  go_wp2_with fail
  refine hC.mono ?_
  clear hC f5 f6 g4 z4
  rintro e w5 ⟨ya5, yl5, yc5, fp5, rfl, hown5, hfr5, hb5⟩
  rw [← HV4.out] at hfr5 hb5
  obtain ⟨nA, nB, nC⟩ := HN4.out
  have zz5 := hb5.size
  have nA5 := (hb5.block _ (lt_row nA)).trans nA
  have nB5 := (hb5.block _ (lt_row nB)).trans nB
  have nC5 := (hb5.block _ (lt_row nC)).trans nC
  have HR5 : Hid (fp5.Nodup ∧ ∀ g ∈ fp5, V4.heap.size ≤ g ∧ g < w5.heap.size) := ⟨hfr5.1, hfr5.2⟩
  have HFIN : Hid (∀ Z, Kept (w.heap.size + 1) (w.heap.size + 1 + 1 + 1) w5 Z → OverO d Z [.int .i64 x.Way, .int .i64 x.MaxR, .int .i64 x.MaxT, .slice ya3 yl3 yc3, .slice ya4 yl4 yc4, .slice ya5 yl5 yc5, .bool x.Down] x (fp3 ++ (fp4 ++ (fp5))) ∧ Fresh w.heap.size Z (fp3 ++ (fp4 ++ (fp5))) ∧ Below w.heap.size w Z) := fun Z hZ => by
    have hzZ := hZ.size
    have hbw : Below w.heap.size w w5 := HB4.out.trans (hb5.mono HB4.out.size)
    have hwz := hbw.size
    have r3 := HR3.out
    have r4 := HR4.out
    have r5 := HR5.out
    refine ⟨⟨_, _, _, fp3, fp4, fp5, rfl, rfl, HO3.out.frame (KidO.lasts d) fun g hg => (hZ.block g (by have := (r3.2 g hg).2; omega) (.inr (by have := (r3.2 g hg).1; omega))).trans (hb5.block g (by have := (r3.2 g hg).2; omega)), HO4.out.frame InO.lasts fun g hg => (hZ.block g (by have := (r4.2 g hg).2; omega) (.inr (by have := (r4.2 g hg).1; omega))).trans (hb5.block g (by have := (r4.2 g hg).2; omega)), hown5.frame InO.lasts fun g hg => hZ.block g (r5.2 g hg).2 (.inr (by have := (r5.2 g hg).1; omega))⟩, ⟨?_, fun g hg => ?_⟩, ?_⟩
    · exact List.nodup_append.2 ⟨r3.1, List.nodup_append.2 ⟨r4.1, r5.1, fun a ha b hb e => by subst e; have h1 := r4.2 a ha; have h2 := r5.2 a hb; omega⟩, fun a ha b hb e => by subst e; have h1 := r3.2 a ha; simp only [List.mem_append] at hb; rcases hb with hb | hb <;> first | (have h2 := r4.2 a hb; omega) | (have h2 := r5.2 a hb; omega)⟩
    · simp only [List.mem_append] at hg
      rcases hg with hg | hg | hg <;> first | (have h2 := r3.2 g hg; omega) | (have h2 := r4.2 g hg; omega) | (have h2 := r5.2 g hg; omega)
    · exact hbw.trans (hZ.below (by omega) hbw.size)
  have f6 : w5.cell? ⟨w.heap.size, 6, none⟩ = some (.bool x.Down) := by rw [cell_of_row w5 _ 6 _ _ _ nA5]; rfl
  have g0 : w5.cell? ⟨w.heap.size + 1 + 1, 0, none⟩ = some (.int .i64 x.Way) := by rw [cell_of_row w5 _ 0 _ _ _ nC5]; rfl
  have z0 : w5.frozen? ⟨w.heap.size + 1 + 1, 0, none⟩ = false := frozen_of_row w5 _ _ _ _ nC5
  have b0 : w5.cell? ⟨w.heap.size + 1, 0, none⟩ = some (.int .i64 0) := by rw [cell_of_row w5 _ 0 _ _ _ nB5]; rfl
  have u0 : w5.frozen? ⟨w.heap.size + 1, 0, none⟩ = false := frozen_of_row w5 _ _ _ _ nB5
  have g1 : w5.cell? ⟨w.heap.size + 1 + 1, 1, none⟩ = some (.int .i64 x.MaxR) := by rw [cell_of_row w5 _ 1 _ _ _ nC5]; rfl
  have z1 : w5.frozen? ⟨w.heap.size + 1 + 1, 1, none⟩ = false := frozen_of_row w5 _ _ _ _ nC5
  have b1 : w5.cell? ⟨w.heap.size + 1, 1, none⟩ = some (.int .i64 0) := by rw [cell_of_row w5 _ 1 _ _ _ nB5]; rfl
  have u1 : w5.frozen? ⟨w.heap.size + 1, 1, none⟩ = false := frozen_of_row w5 _ _ _ _ nB5
  have g2 : w5.cell? ⟨w.heap.size + 1 + 1, 2, none⟩ = some (.int .i64 x.MaxT) := by rw [cell_of_row w5 _ 2 _ _ _ nC5]; rfl
  have z2 : w5.frozen? ⟨w.heap.size + 1 + 1, 2, none⟩ = false := frozen_of_row w5 _ _ _ _ nC5
  have b2 : w5.cell? ⟨w.heap.size + 1, 2, none⟩ = some (.int .i64 0) := by rw [cell_of_row w5 _ 2 _ _ _ nB5]; rfl
  have u2 : w5.frozen? ⟨w.heap.size + 1, 2, none⟩ = false := frozen_of_row w5 _ _ _ _ nB5
  have g3 : w5.cell? ⟨w.heap.size + 1 + 1, 3, none⟩ = some (.slice ya3 yl3 yc3) := by rw [cell_of_row w5 _ 3 _ _ _ nC5]; rfl
  have z3 : w5.frozen? ⟨w.heap.size + 1 + 1, 3, none⟩ = false := frozen_of_row w5 _ _ _ _ nC5
  have b3 : w5.cell? ⟨w.heap.size + 1, 3, none⟩ = some (.slice none 0 0) := by rw [cell_of_row w5 _ 3 _ _ _ nB5]; rfl
  have u3 : w5.frozen? ⟨w.heap.size + 1, 3, none⟩ = false := frozen_of_row w5 _ _ _ _ nB5
  have g4 : w5.cell? ⟨w.heap.size + 1 + 1, 4, none⟩ = some (.slice ya4 yl4 yc4) := by rw [cell_of_row w5 _ 4 _ _ _ nC5]; rfl
  have z4 : w5.frozen? ⟨w.heap.size + 1 + 1, 4, none⟩ = false := frozen_of_row w5 _ _ _ _ nC5
  have b4 : w5.cell? ⟨w.heap.size + 1, 4, none⟩ = some (.slice none 0 0) := by rw [cell_of_row w5 _ 4 _ _ _ nB5]; rfl
  have u4 : w5.frozen? ⟨w.heap.size + 1, 4, none⟩ = false := frozen_of_row w5 _ _ _ _ nB5
  have g5 : w5.cell? ⟨w.heap.size + 1 + 1, 5, none⟩ = some (.slice none 0 0) := by rw [cell_of_row w5 _ 5 _ _ _ nC5]; rfl
  have z5 : w5.frozen? ⟨w.heap.size + 1 + 1, 5, none⟩ = false := frozen_of_row w5 _ _ _ _ nC5
  have b5 : w5.cell? ⟨w.heap.size + 1, 5, none⟩ = some (.slice none 0 0) := by rw [cell_of_row w5 _ 5 _ _ _ nB5]; rfl
  have u5 : w5.frozen? ⟨w.heap.size + 1, 5, none⟩ = false := frozen_of_row w5 _ _ _ _ nB5
  have g6 : w5.cell? ⟨w.heap.size + 1 + 1, 6, none⟩ = some (.bool false) := by rw [cell_of_row w5 _ 6 _ _ _ nC5]; rfl
  have z6 : w5.frozen? ⟨w.heap.size + 1 + 1, 6, none⟩ = false := frozen_of_row w5 _ _ _ _ nC5
  have b6 : w5.cell? ⟨w.heap.size + 1, 6, none⟩ = some (.bool false) := by rw [cell_of_row w5 _ 6 _ _ _ nB5]; rfl
  have u6 : w5.frozen? ⟨w.heap.size + 1, 6, none⟩ = false := frozen_of_row w5 _ _ _ _ nB5
  clear nA5 nB5 nC5 nA nB nC hown5 hfr5 hb5 HN4
  go_wp2_with fail
  refine bodyPost_ret (v := .agg #[.int .i64 x.Way, .int .i64 x.MaxR, .int .i64 x.MaxT, .slice ya3 yl3 yc3, .slice ya4 yl4 yc4, .slice ya5 yl5 yc5, .bool x.Down]) (by first | (simp [results, Try.results9, go_sem, b0, b1, b2, b3, b4, b5, b6]; done) | (simp [results, Try.results9, go_sem, b0, b1, b2, b3, b4, b5, b6]; rfl)) rfl ⟨[.int .i64 x.Way, .int .i64 x.MaxR, .int .i64 x.MaxT, .slice ya3 yl3 yc3, .slice ya4 yl4 yc4, .slice ya5 yl5 yc5, .bool x.Down], fp3 ++ (fp4 ++ (fp5)), rfl, HFIN.out _ ?_⟩
  repeat (first | with_reducible exact Kept.refl _ _ _ | with_reducible refine Kept.drew ?_ | (with_reducible refine Kept.set ?_ ?_; omega))

theorem toOverS_any (d : Nat) : ToLs 14 7 30 (OverR d) (OverO d) (WfOver d) (szOverD d) := toOverS_of _ _ _ _ (OverR.lasts d) (OverO.lasts d) (OverR.shape d) (OverO.shape d) (toOver_any d)

set_option maxHeartbeats 4000000 in
theorem eqOver_any (d : Nat) : EqEl 11 (OverR d) (WfOver d) := by
  rintro vs1 vs2 x w ⟨v3, v4, v5, rfl, h0, h1, h2⟩ ⟨v3z, v4z, v5z, rfl, k0, k1, k2⟩ ⟨wWay, wMaxR, wMaxT, wKids, wPids, wTimes⟩
  obtain ⟨a3, l3, c3, rfl⟩ := h0.sl
  obtain ⟨a4, l4, c4, rfl⟩ := h1.sl
  obtain ⟨a5, l5, c5, rfl⟩ := h2.sl
  obtain ⟨za3, zl3, zc3, rfl⟩ := k0.sl
  obtain ⟨za4, zl4, zc4, rfl⟩ := k1.sl
  obtain ⟨za5, zl5, zc5, rfl⟩ := k2.sl
  obtain ⟨W, hW⟩ : ∃ W, W = (w.alloc (Obj.cells #[.int .i64 x.Way, .int .i64 x.MaxR, .int .i64 x.MaxT, .slice a3 l3 c3, .slice a4 l4 c4, .slice a5 l5 c5, .bool x.Down] 30)).alloc (Obj.cells #[.int .i64 x.Way, .int .i64 x.MaxR, .int .i64 x.MaxT, .slice za3 zl3 zc3, .slice za4 zl4 zc4, .slice za5 zl5 zc5, .bool x.Down] 30) := ⟨_, rfl⟩
  have hA : Below w.heap.size w W := by rw [hW]; exact ((Below.refl _ _).alloc (Nat.le_refl _) _).alloc (by simp) _
  have n1 : W.heap[w.heap.size]? = some (Obj.cells #[.int .i64 x.Way, .int .i64 x.MaxR, .int .i64 x.MaxT, .slice a3 l3 c3, .slice a4 l4 c4, .slice a5 l5 c5, .bool x.Down] 30 (0, 0)) := by rw [hW, Below.heap_alloc _ _ _ (by simp)]; exact heap_alloc_new w _
  have n2 : W.heap[w.heap.size + 1]? = some (Obj.cells #[.int .i64 x.Way, .int .i64 x.MaxR, .int .i64 x.MaxT, .slice za3 zl3 zc3, .slice za4 zl4 zc4, .slice za5 zl5 zc5, .bool x.Down] 30 (0, 0)) := by rw [hW]; have := heap_alloc_new (w.alloc (Obj.cells #[.int .i64 x.Way, .int .i64 x.MaxR, .int .i64 x.MaxT, .slice a3 l3 c3, .slice a4 l4 c4, .slice a5 l5 c5, .bool x.Down] 30)) (Obj.cells #[.int .i64 x.Way, .int .i64 x.MaxR, .int .i64 x.MaxT, .slice za3 zl3 zc3, .slice za4 zl4 zc4, .slice za5 zl5 zc5, .bool x.Down] 30); simpa using this
  have H3 : Hid (∀ V : World, Below w.heap.size w V → _) := fun V hV => eqKidS_any d (.slice a3 l3 c3) (.slice za3 zl3 zc3) x.Kids V (h0.later (KidR.lasts d) hV) (k0.later (KidR.lasts d) hV) wKids
  have H4 : Hid (∀ V : World, Below w.heap.size w V → _) := fun V hV => eqInts_any (.slice a4 l4 c4) (.slice za4 zl4 zc4) x.Pids V (h1.later InR.lasts hV) (k1.later InR.lasts hV) wPids
  have H5 : Hid (∀ V : World, Below w.heap.size w V → _) := fun V hV => eqInts_any (.slice a5 l5 c5) (.slice za5 zl5 zc5) x.Times V (h2.later InR.lasts hV) (k2.later InR.lasts hV) wTimes
  have HW : Hid (W = _) := hW
  have HN : Hid (Below w.heap.size w W ∧ _ ∧ _) := ⟨hA, n1, n2⟩
  clear n1 n2 h0 k0 wKids h1 k1 wPids h2 k2 wTimes
  clear hA
  have hC := H3.out W HN.out.1
  rw [hW] at hC
  clear hW
  go_enter Try.func11, Try.ntmps11
  go_wp2_with fail
  refine hC.mono ?_
  clear hC
  rintro e w3 ⟨rfl, hb3⟩
  rw [← HW.out] at hb3
  have HN3 : Hid (Below w.heap.size w w3 ∧ _ ∧ _) := ⟨HN.out.1.trans (hb3.mono HN.out.1.size), (hb3.block _ (lt_row HN.out.2.1)).trans HN.out.2.1, (hb3.block _ (lt_row HN.out.2.2)).trans HN.out.2.2⟩
  clear hb3
  have f4 : w3.cell? ⟨w.heap.size, 4, none⟩ = some (.slice a4 l4 c4) := by rw [cell_of_row w3 _ 4 _ _ _ HN3.out.2.1]; rfl
  have g4 : w3.cell? ⟨w.heap.size + 1, 4, none⟩ = some (.slice za4 zl4 zc4) := by rw [cell_of_row w3 _ 4 _ _ _ HN3.out.2.2]; rfl
  have f5 : w3.cell? ⟨w.heap.size, 5, none⟩ = some (.slice a5 l5 c5) := by rw [cell_of_row w3 _ 5 _ _ _ HN3.out.2.1]; rfl
  have g5 : w3.cell? ⟨w.heap.size + 1, 5, none⟩ = some (.slice za5 zl5 zc5) := by rw [cell_of_row w3 _ 5 _ _ _ HN3.out.2.2]; rfl
  have f6 : w3.cell? ⟨w.heap.size, 6, none⟩ = some (.bool x.Down) := by rw [cell_of_row w3 _ 6 _ _ _ HN3.out.2.1]; rfl
  have g6 : w3.cell? ⟨w.heap.size + 1, 6, none⟩ = some (.bool x.Down) := by rw [cell_of_row w3 _ 6 _ _ _ HN3.out.2.2]; rfl
  have hC := H4.out w3 HN3.out.1
  go_wp2_with fail
  refine hC.mono ?_
  clear hC f4 g4 f5 g5 f6 g6
  rintro e w4 ⟨rfl, hb4⟩
  have HN4 : Hid (Below w.heap.size w w4 ∧ _ ∧ _) := ⟨HN3.out.1.trans (hb4.mono HN3.out.1.size), (hb4.block _ (lt_row HN3.out.2.1)).trans HN3.out.2.1, (hb4.block _ (lt_row HN3.out.2.2)).trans HN3.out.2.2⟩
  clear hb4
  have f5 : w4.cell? ⟨w.heap.size, 5, none⟩ = some (.slice a5 l5 c5) := by rw [cell_of_row w4 _ 5 _ _ _ HN4.out.2.1]; rfl
  have g5 : w4.cell? ⟨w.heap.size + 1, 5, none⟩ = some (.slice za5 zl5 zc5) := by rw [cell_of_row w4 _ 5 _ _ _ HN4.out.2.2]; rfl
  have f6 : w4.cell? ⟨w.heap.size, 6, none⟩ = some (.bool x.Down) := by rw [cell_of_row w4 _ 6 _ _ _ HN4.out.2.1]; rfl
  have g6 : w4.cell? ⟨w.heap.size + 1, 6, none⟩ = some (.bool x.Down) := by rw [cell_of_row w4 _ 6 _ _ _ HN4.out.2.2]; rfl
  have hC := H5.out w4 HN4.out.1
  go_wp2_with fail
  refine hC.mono ?_
  clear hC f5 g5 f6 g6
  rintro e w5 ⟨rfl, hb5⟩
  have HN5 : Hid (Below w.heap.size w w5 ∧ _ ∧ _) := ⟨HN4.out.1.trans (hb5.mono HN4.out.1.size), (hb5.block _ (lt_row HN4.out.2.1)).trans HN4.out.2.1, (hb5.block _ (lt_row HN4.out.2.2)).trans HN4.out.2.2⟩
  clear hb5
  have f6 : w5.cell? ⟨w.heap.size, 6, none⟩ = some (.bool x.Down) := by rw [cell_of_row w5 _ 6 _ _ _ HN5.out.2.1]; rfl
  have g6 : w5.cell? ⟨w.heap.size + 1, 6, none⟩ = some (.bool x.Down) := by rw [cell_of_row w5 _ 6 _ _ _ HN5.out.2.2]; rfl
  go_wp2
  go_ret
  exact ⟨rfl, HN5.out.1⟩

theorem eqOverS_any (d : Nat) : EqLs 16 7 (OverR d) (WfOver d) := eqOverS_of _ _ (OverR.lasts d) (OverR.shape d) (eqOver_any d)

theorem Over_at {d n c : Nat} {w : World} {a : Option Addr} {m : List (DOver d)} (h : RowOf 7 (OverR d) w (.slice a n c) m) (i : Nat) (x : (DOver d)) (hx : m[i]? = some x) : ∃ (b o : Nat) (a3 : Option Addr) (c3 : Nat) (a4 : Option Addr) (c4 : Nat) (a5 : Option Addr) (c5 : Nat), a = some ⟨b, o, none⟩ ∧ w.cell? ⟨b, o + i * 7, none⟩ = some (.int .i64 x.Way) ∧ w.cell? ⟨b, o + i * 7 + 1, none⟩ = some (.int .i64 x.MaxR) ∧ w.cell? ⟨b, o + i * 7 + 2, none⟩ = some (.int .i64 x.MaxT) ∧ w.cell? ⟨b, o + i * 7 + 3, none⟩ = some (.slice a3 x.Kids.length c3) ∧ w.cell? ⟨b, o + i * 7 + 4, none⟩ = some (.slice a4 x.Pids.length c4) ∧ w.cell? ⟨b, o + i * 7 + 5, none⟩ = some (.slice a5 x.Times.length c5) ∧ w.cell? ⟨b, o + i * 7 + 6, none⟩ = some (.bool x.Down) ∧ RowOf 7 (KidR d) w (.slice a3 x.Kids.length c3) x.Kids ∧ RowOf 1 InR w (.slice a4 x.Pids.length c4) x.Pids ∧ RowOf 1 InR w (.slice a5 x.Times.length c5) x.Times := by
  obtain ⟨a', c', e, hel⟩ := h
  cases e
  obtain ⟨b, o, vs, h2, h3, h4, v3, v4, v5, rfl, g0, g1, g2⟩ := hel i x hx
  obtain ⟨a3, c3, rfl⟩ := g0.slice
  obtain ⟨a4, c4, rfl⟩ := g1.slice
  obtain ⟨a5, c5, rfl⟩ := g2.slice
  exact ⟨b, o, a3, c3, a4, c4, a5, c5, h2, h4 0 _ rfl, h4 1 _ rfl, h4 2 _ rfl, h4 3 _ rfl, h4 4 _ rfl, h4 5 _ rfl, h4 6 _ rfl, g0, g1, g2⟩

theorem Try.cellsOver : Try.prog.cellsOf 25 = 7 := by kernel_rfl
theorem Try.cellsOvers : Try.prog.cellsOf 34 = 1 := by kernel_rfl
section
variable {H : Type} {enc : TypeId × Value → H} {W : World} {base : Nat} {spare : Nat → Bool} {held : Bool}

set_option maxRecDepth 100000 in
theorem read_OverC (m d : Nat) (hd : m ≤ d) (cs : List Value) (x : DataW H × List MemPlace) (h : DataW.trod enc Try.prog W base spare held m 25 cs = some x) (hl : cs.length = 7) : ∃ f : DOver d, OverR d W cs f ∧ WfOver d f := by
  obtain ⟨c0, c1, c2, c3, c4, c5, c6, rfl⟩ : ∃ c0 c1 c2 c3 c4 c5 c6, cs = [c0, c1, c2, c3, c4, c5, c6] := by
    match cs, hl with
    | [c0, c1, c2, c3, c4, c5, c6], _ => exact ⟨c0, c1, c2, c3, c4, c5, c6, rfl⟩
  obtain ⟨xs, m, rfl, _, _, hxl, hf⟩ := DataW.trod_struct Try.underlying25 h
  have hxl' : xs.length = 7 := hxl
  have h0 : DataW.trod enc Try.prog W base spare held m 3 [c0] = xs[0]? := by have := hf 0 _ rfl; simpa [Try.cells3, Try.cells4, Try.cellsInts, Try.cellsKids] using this
  have h1 : DataW.trod enc Try.prog W base spare held m 3 [c1] = xs[1]? := by have := hf 1 _ rfl; simpa [Try.cells3, Try.cells4, Try.cellsInts, Try.cellsKids] using this
  have h2 : DataW.trod enc Try.prog W base spare held m 3 [c2] = xs[2]? := by have := hf 2 _ rfl; simpa [Try.cells3, Try.cells4, Try.cellsInts, Try.cellsKids] using this
  have h3 : DataW.trod enc Try.prog W base spare held m 22 [c3] = xs[3]? := by have := hf 3 _ rfl; simpa [Try.cells3, Try.cells4, Try.cellsInts, Try.cellsKids] using this
  have h4 : DataW.trod enc Try.prog W base spare held m 23 [c4] = xs[4]? := by have := hf 4 _ rfl; simpa [Try.cells3, Try.cells4, Try.cellsInts, Try.cellsKids] using this
  have h5 : DataW.trod enc Try.prog W base spare held m 23 [c5] = xs[5]? := by have := hf 5 _ rfl; simpa [Try.cells3, Try.cells4, Try.cellsInts, Try.cellsKids] using this
  have h6 : DataW.trod enc Try.prog W base spare held m 4 [c6] = xs[6]? := by have := hf 6 _ rfl; simpa [Try.cells3, Try.cells4, Try.cellsInts, Try.cellsKids] using this
  rw [List.getElem?_eq_getElem (by omega)] at h0 h1 h2 h3 h4 h5 h6
  obtain ⟨x0, e0, _, q0⟩ := DataW.trod_int Try.underlying3 h0
  obtain ⟨x1, e1, _, q1⟩ := DataW.trod_int Try.underlying3 h1
  obtain ⟨x2, e2, _, q2⟩ := DataW.trod_int Try.underlying3 h2
  obtain ⟨x6, e6, _⟩ := DataW.trod_bool Try.underlying4 h6
  simp only [List.cons.injEq, and_true] at e0 e1 e2 e6
  subst e0 e1 e2 e6
  obtain ⟨x3, r3, q3⟩ := read_row (R := (KidR d)) (P := (WfKid d)) Try.underlying22 Try.cellsKid (by omega) (fun n hn cs x hx hl => read_KidC n d (by omega) cs x hx hl) h3
  obtain ⟨x4, r4, q4⟩ := read_ints h4
  obtain ⟨x5, r5, q5⟩ := read_ints h5
  exact ⟨⟨x0, x1, x2, x3, x4, x5, x6⟩, ⟨_, _, _, rfl, r3, r4, r5⟩, bounds_i64 q0, bounds_i64 q1, bounds_i64 q2, q3, q4, q5⟩

theorem read_Overs {m d : Nat} (hd : m ≤ d) {v : Value} {x : DataW H × List MemPlace} (h : DataW.trod enc Try.prog W base spare held m 34 [v] = some x) : ∃ l : List (DOver d), RowOf 7 (OverR d) W v l ∧ WfRow (WfOver d) l :=
  read_row (R := OverR d) (P := WfOver d) Try.underlying34 Try.cellsOver (by omega) (fun n hn cs x hx hl => read_OverC n d (by omega) cs x hx hl) h

set_option maxRecDepth 100000 in
theorem read_Over {r : Reach} {b0 : Nat} {v : Value} {x : DataW H} {p : List MemPlace} (hv : Value.okWide Try.prog W r b0 25 v) (h : DataW.Trod enc Try.prog W base spare held 25 v x p) :
    ∃ M, ∀ d, M ≤ d → ∃ (vs : List Value) (e : DOver d), v = .agg vs.toArray ∧ OverR d W vs e ∧ WfOver d e := by
  obtain ⟨cs, rfl, hsz⟩ := okWide_struct Try.underlying25 hv
  obtain ⟨fuel, hf⟩ := h
  have hf' : DataW.trod enc Try.prog W base spare held fuel 25 cs.toList = some (x, p) := hf
  refine ⟨fuel, fun d hd => ?_⟩
  obtain ⟨e, h1, h2⟩ := read_OverC fuel d hd cs.toList _ hf' (by have := hsz.trans Try.cellsOver; simpa using this)
  exact ⟨cs.toList, e, by simp, h1, h2⟩
end

end Go.Proofs.Ytgmddookohkhlaa
