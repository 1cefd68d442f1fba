/- A struct of the laws as data: Entry; the law's own measure, copy and comparison of it; how it is read. -/
import Derived.Test.YtahmbnokjfkfiaaDt0
import Derived.Test.YtahmbnokjfkfiaaXm2
import Derived.Test.YtahmbnokjfkfiaaRowEntry
import Derived.Test.YtahmbnokjfkfiaaDtCode
namespace Go.Proofs.Ytahmbnokjfkfiaa
open Go.RowKit Go.ChangeShapes Go.WideShapes Go.Joins Go.Deep
set_option linter.unusedVariables false

structure DEntry (d : Nat) where
  Name : ByteArray
  No : Int
  Cur : DCode d
  HasOld : Bool
  Old : DCode d


def EntryR (d : Nat) (w : World) (vs : List Value) (x : DEntry d) : Prop := ∃ v2 v3 v5 v6, vs = [.string x.Name, .int .i64 x.No, v2, v3, .bool x.HasOld, v5, v6] ∧ CodeR d w [v2, v3] x.Cur ∧ CodeR d w [v5, v6] x.Old

def EntryO (d : Nat) (w : World) (vs : List Value) (x : DEntry d) (fp : List Nat) : Prop := ∃ v2 v3 v5 v6 f0 f1, vs = [.string x.Name, .int .i64 x.No, v2, v3, .bool x.HasOld, v5, v6] ∧ fp = f0 ++ (f1) ∧ CodeO d w [v2, v3] x.Cur f0 ∧ CodeO d w [v5, v6] x.Old f1

def WfEntry (d : Nat) (x : DEntry d) : Prop := x.Name.size ≤ maxLen ∧ I64 x.No ∧ WfCode d x.Cur ∧ WfCode d x.Old

def szEntryD (d : Nat) (x : DEntry d) : Nat := x.Name.size + (szCodeD d x.Cur + (szCodeD d x.Old))

theorem EntryR.lasts (d : Nat) : Lasts (EntryR d) := by
  rintro w w' vs x ⟨v2, v3, v5, v6, rfl, h0, h1⟩ hb
  exact ⟨v2, v3, v5, v6, rfl, (CodeR.lasts d _ _ _ _ h0 hb), (CodeR.lasts d _ _ _ _ h1 hb)⟩

theorem EntryO.lasts (d : Nat) : LastsO (EntryO d) := by
  rintro w w' vs x fp ⟨v2, v3, v5, v6, f0, f1, rfl, rfl, h0, h1⟩ hb
  exact ⟨v2, v3, v5, v6, _, _, rfl, rfl, CodeO.lasts d _ _ _ _ _ h0 fun j hj => hb j (List.mem_append_left _ hj), CodeO.lasts d _ _ _ _ _ h1 fun j hj => hb j (List.mem_append_right _ (hj))⟩

theorem EntryO.reads (d : Nat) : Reads (EntryO d) (EntryR d) := by
  rintro w vs x fp ⟨v2, v3, v5, v6, f0, f1, rfl, rfl, h0, h1⟩
  exact ⟨v2, v3, v5, v6, rfl, (CodeO.reads d _ _ _ _ h0), (CodeO.reads d _ _ _ _ h1)⟩

theorem EntryR.shape (d : Nat) : ∀ w vs x, EntryR d w vs x → ShEntry vs := by
  rintro w vs x ⟨v2, v3, v5, v6, rfl, h0, h1⟩
  obtain ⟨q0a2, q0l2, q0c2, q0a3, q0l3, q0c3, esh⟩ := CodeR.shape d _ _ _ h0
  cases esh
  obtain ⟨q1a5, q1l5, q1c5, q1a6, q1l6, q1c6, esh⟩ := CodeR.shape d _ _ _ h1
  cases esh
  exact ⟨_, _, _, _, _, _, _, _, _, _, _, _, _, _, _, rfl⟩

theorem EntryO.shape (d : Nat) : ∀ w vs x fp, EntryO d w vs x fp → ShEntry vs := fun w vs x fp h => EntryR.shape d w vs x (EntryO.reads d w vs x fp h)

set_option maxHeartbeats 4000000 in
theorem szEntry_any (d : Nat) : SzEl 15 (EntryR d) (WfEntry d) (szEntryD d) := by
  rintro vs x left w ⟨v2, v3, v5, v6, rfl, h0, h1⟩ ⟨wName, wNo, wCur, wOld⟩ hl0 hm
  obtain ⟨a2, l2, c2, a3, l3, c3, esh⟩ := CodeR.shape d _ _ _ h0
  cases esh
  obtain ⟨a5, l5, c5, a6, l6, c6, esh⟩ := CodeR.shape d _ _ _ h1
  cases esh
  have hsName : x.Name.size ≤ 9223372036854775807 := by unfold maxLen at wName; omega
  obtain ⟨W, hW⟩ : ∃ W, W = w.alloc (Obj.cells #[.string x.Name, .int .i64 x.No, .slice a2 l2 c2, .slice a3 l3 c3, .bool x.HasOld, .slice a5 l5 c5, .slice a6 l6 c6] 43) := ⟨_, rfl⟩
  have hA : Below w.heap.size w W := by rw [hW]; exact (Below.refl _ _).alloc (Nat.le_refl _) _
  have hWc : W.heap[w.heap.size]? = some (Obj.cells #[.string x.Name, .int .i64 x.No, .slice a2 l2 c2, .slice a3 l3 c3, .bool x.HasOld, .slice a5 l5 c5, .slice a6 l6 c6] 43 (0, 0)) := by rw [hW]; exact heap_alloc_new w _
  obtain ⟨A2, hA2⟩ : ∃ A, szCodeD d x.Cur = A := ⟨_, rfl⟩
  obtain ⟨A5, hA5⟩ : ∃ A, szCodeD d x.Old = A := ⟨_, rfl⟩
  have e0 : szEntryD d x = x.Name.size + (A2 + (A5)) := by rw [← hA2]; rw [← hA5]; rfl
  rw [e0]
  obtain ⟨TL, hTL⟩ : ∃ L, lft left (x.Name.size + (A2 + (A5))) = L := ⟨_, rfl⟩
  rw [hTL]
  have H2 : Hid (∀ V : World, Below w.heap.size w V → ∀ l : Int, 0 ≤ l → l ≤ 1048576 → _) := fun V hV l p1 p2 => szCode_any d [.slice a2 l2 c2, .slice a3 l3 c3] x.Cur l V (CodeR.lasts d _ _ _ _ h0 hV) wCur p1 p2
  rw [hA2] at H2
  have H5 : Hid (∀ V : World, Below w.heap.size w V → ∀ l : Int, 0 ≤ l → l ≤ 1048576 → _) := fun V hV l p1 p2 => szCode_any d [.slice a5 l5 c5, .slice a6 l6 c6] x.Old l V (CodeR.lasts d _ _ _ _ h1 hV) wOld p1 p2
  rw [hA5] at H5
  have HW : Hid (W = _) := hW
  have HT0 : Hid (TL = lft left (x.Name.size + (A2 + (A5)))) := hTL.symm
  have HB0 : Hid (Below w.heap.size w W ∧ W.heap[w.heap.size]? = some (Obj.cells #[.string x.Name, .int .i64 x.No, .slice a2 l2 c2, .slice a3 l3 c3, .bool x.HasOld, .slice a5 l5 c5, .slice a6 l6 c6] 43 (0, 0))) := ⟨hA, hWc⟩
  clear e0 hTL hW hA hWc hA2 h0 wCur hA5 h1 wOld
  by_cases hlt0 : left < (x.Name.size : Int)
  · have HF : Hid ((-1 : Int) = TL) := by show _ = _; rw [HT0.out]; unfold lft; rw [if_neg (by omega)]
    go_enter Try.func15, Try.ntmps15
    go_wp2
    go_ret
    exact ⟨tret1 HF.out, (by have := HB0.out.1; rw [HW.out] at this; exact this)⟩
  · have HT1 : Hid (TL = lft (left - (x.Name.size : Int)) (A2 + (A5))) := by
      show _ = _
      rw [HT0.out]
      unfold lft
      by_cases h : ((A2 + (A5) : Nat) : Int) ≤ (left - (x.Name.size : Int))
      · rw [if_pos h, if_pos (by omega)]; omega
      · rw [if_neg h, if_neg (by omega)]
    have hC := H2.out W HB0.out.1 (left - (x.Name.size : Int)) (by omega) (by omega)
    obtain ⟨y2, hy2⟩ : ∃ y, lft (left - (x.Name.size : Int)) A2 = y := ⟨_, rfl⟩
    have HL2 : Hid (_ ∧ _) := lft_two (left - (x.Name.size : Int)) A2 (A5) (by omega)
    rw [hy2] at hC HL2
    clear hy2
    rw [HW.out] at hC
    go_enter Try.func15, Try.ntmps15
    go_wp2_with fail
    refine hC.mono ?_
    clear hC
    rintro e w2 ⟨rfl, hb2⟩
    rw [← HW.out] at hb2
    have HB3 : Hid (Below w.heap.size w w2 ∧ w2.heap[w.heap.size]? = some (Obj.cells #[.string x.Name, .int .i64 x.No, .slice a2 l2 c2, .slice a3 l3 c3, .bool x.HasOld, .slice a5 l5 c5, .slice a6 l6 c6] 43 (0, 0))) := ⟨HB0.out.1.trans (hb2.mono HB0.out.1.size), (hb2.block _ (lt_row HB0.out.2)).trans HB0.out.2⟩
    clear hb2
    by_cases hneg : y2 < 0
    · have HF : Hid ((-1 : Int) = TL) := by show _ = _; rw [HT1.out]; exact (HL2.out.1 (by omega)).symm
      go_wp2
      go_ret
      exact ⟨tret1 HF.out, HB3.out.1⟩
    · obtain ⟨E1, E2, E3⟩ := HL2.out.2 (by omega)
      have HT3 : Hid (TL = lft y2 (A5)) := by show _ = _; rw [HT1.out]; exact E1.symm
      have hm2 : y2 ≤ 1048576 := by omega
      clear E1
      have f4 : w2.cell? ⟨w.heap.size, 4, none⟩ = some (.bool x.HasOld) := by rw [cell_of_row w2 _ 4 _ _ _ HB3.out.2]; rfl
      have f5 : w2.cell? ⟨w.heap.size, 5, none⟩ = some (.slice a5 l5 c5) := by rw [cell_of_row w2 _ 5 _ _ _ HB3.out.2]; rfl
      have f6 : w2.cell? ⟨w.heap.size, 6, none⟩ = some (.slice a6 l6 c6) := by rw [cell_of_row w2 _ 6 _ _ _ HB3.out.2]; rfl
      have hC := H5.out w2 HB3.out.1 y2 (by omega) (by omega)
      obtain ⟨y5, hy5⟩ : ∃ y, lft y2 A5 = y := ⟨_, rfl⟩
      have HL5 : Hid (y5 < 0 → y5 = -1) := fun h => by rw [← hy5] at h ⊢; exact lft_neg _ _ h
      have HM5 : Hid (TL = y5) := HT3.out.trans hy5
      rw [hy5] at hC
      clear hy5
      go_wp2_with fail
      refine hC.mono ?_
      clear hC
      rintro e w5 ⟨rfl, hb5⟩
      have HB6 : Hid (Below w.heap.size w w5 ∧ w5.heap[w.heap.size]? = some (Obj.cells #[.string x.Name, .int .i64 x.No, .slice a2 l2 c2, .slice a3 l3 c3, .bool x.HasOld, .slice a5 l5 c5, .slice a6 l6 c6] 43 (0, 0))) := ⟨HB3.out.1.trans (hb5.mono HB3.out.1.size), (hb5.block _ (lt_row HB3.out.2)).trans HB3.out.2⟩
      clear hb5
      by_cases hneg : y5 < 0
      · have HF : Hid ((-1 : Int) = TL) := by show _ = _; rw [HM5.out]; exact (HL5.out (by omega)).symm
        go_wp2
        go_ret
        exact ⟨tret1 HF.out, HB6.out.1⟩
      · have HF : Hid (y5 = TL) := HM5.out.symm
        go_wp2
        go_ret
        exact ⟨tret1 HF.out, HB6.out.1⟩

theorem szEntryS_any (d : Nat) : SzLs 5 7 (EntryR d) (WfEntry d) (szEntryD d) := szEntryS_of _ _ _ (EntryR.lasts d) (EntryR.shape d) (szEntry_any d)

set_option maxHeartbeats 4000000 in
theorem toEntry_any (d : Nat) : ToEl 17 (EntryR d) (EntryO d) (WfEntry d) (szEntryD d) := by
  rintro vs x w ⟨v2, v3, v5, v6, rfl, h0, h1⟩ ⟨wName, wNo, wCur, wOld⟩ hz
  have hz' : x.Name.size + (szCodeD d x.Cur + (szCodeD d x.Old)) ≤ 1048576 := hz
  obtain ⟨a2, l2, c2, a3, l3, c3, esh⟩ := CodeR.shape d _ _ _ h0
  cases esh
  obtain ⟨a5, l5, c5, a6, l6, c6, esh⟩ := CodeR.shape d _ _ _ h1
  cases esh
  obtain ⟨W, hW⟩ : ∃ W, W = ((w.alloc (Obj.cells #[.string x.Name, .int .i64 x.No, .slice a2 l2 c2, .slice a3 l3 c3, .bool x.HasOld, .slice a5 l5 c5, .slice a6 l6 c6] 43)).alloc (.cells #[.string ⟨#[]⟩, .int .i64 0, .slice none 0 0, .slice none 0 0, .bool false, .slice none 0 0, .slice none 0 0] 45)).alloc (.cells #[.string x.Name, .int .i64 x.No, .slice none 0 0, .slice none 0 0, .bool false, .slice none 0 0, .slice none 0 0] 45) := ⟨_, rfl⟩
  obtain ⟨nA, nB, nC⟩ := heap_three w (Obj.cells #[.string x.Name, .int .i64 x.No, .slice a2 l2 c2, .slice a3 l3 c3, .bool x.HasOld, .slice a5 l5 c5, .slice a6 l6 c6] 43) (.cells #[.string ⟨#[]⟩, .int .i64 0, .slice none 0 0, .slice none 0 0, .bool false, .slice none 0 0, .slice none 0 0] 45) (.cells #[.string x.Name, .int .i64 x.No, .slice none 0 0, .slice none 0 0, .bool false, .slice none 0 0, .slice none 0 0] 45)
  rw [← hW] at nA nB nC
  have hWb : Below w.heap.size w W := by rw [hW]; exact (((Below.refl _ _).alloc (Nat.le_refl _) _).alloc (by simp) _).alloc (by simp; omega) _
  have hWs : W.heap.size = w.heap.size + 1 + 1 + 1 := by rw [hW]; simp
  have H2 : Hid (∀ V : World, Below w.heap.size w V → _) := fun V hV => toCode_any d [.slice a2 l2 c2, .slice a3 l3 c3] x.Cur V (CodeR.lasts d _ _ _ _ h0 hV) wCur (by omega)
  have HSO2 : Hid (∀ (V : World) (vs : List Value) (f : List Nat), CodeO d V vs x.Cur f → ShCode vs) := fun V vs f h => CodeO.shape d V vs x.Cur f h
  have H5 : Hid (∀ V : World, Below w.heap.size w V → _) := fun V hV => toCode_any d [.slice a5 l5 c5, .slice a6 l6 c6] x.Old V (CodeR.lasts d _ _ _ _ h1 hV) wOld (by omega)
  have HSO5 : Hid (∀ (V : World) (vs : List Value) (f : List Nat), CodeO d V vs x.Old f → ShCode vs) := fun V vs f h => CodeO.shape d V vs x.Old f h
  have HW : Hid (W = _) := hW
  have HBW : Hid (Below w.heap.size w W) := hWb
  have HN : Hid (_ ∧ _ ∧ _) := ⟨nA, nB, nC⟩
  clear hW nA nB nC hWb hz hz' h0 wCur h1 wOld
  have hC := H2.out W HBW.out
  rw [HW.out] at hC
  go_enter Try.func17, Try.ntmps17
  go_wp2_with fail
  refine hC.mono ?_
  clear hC
  rintro e w2 ⟨vs2, fp2, rfl, hown2, hfr2, hb2⟩
  obtain ⟨ya2, yl2, yc2, ya3, yl3, yc3, rfl⟩ := HSO2.out _ _ _ hown2
  rw [← HW.out] at hfr2 hb2
  obtain ⟨nA, nB, nC⟩ := HN.out
  have zz2 := hb2.size
  have nA2 := (hb2.block _ (lt_row nA)).trans nA
  have nB2 := (hb2.block _ (lt_row nB)).trans nB
  have nC2 := (hb2.block _ (lt_row nC)).trans nC
  obtain ⟨V2, hV2⟩ : ∃ V, V = ((w2.setCell ⟨w.heap.size + 1 + 1, 2, none⟩ (.slice ya2 yl2 yc2)).setCell ⟨w.heap.size + 1 + 1, 3, none⟩ (.slice ya3 yl3 yc3)).setCell ⟨w.heap.size + 1 + 1, 4, none⟩ (.bool x.HasOld) := ⟨_, rfl⟩
  have hV2' : V2 = setL w2 (w.heap.size + 1 + 1) 2 [.slice ya2 yl2 yc2, .slice ya3 yl3 yc3, .bool x.HasOld] := hV2
  have hzV2 : V2.heap.size = w2.heap.size := by rw [hV2']; exact setL_size _ _ _ _
  have hkV : ∀ j, j ≠ w.heap.size + 1 + 1 → V2.heap[j]? = w2.heap[j]? := fun j hj => by rw [hV2']; exact setL_other _ _ _ _ _ hj
  have hbV : Below (w.heap.size + 1 + 1) w2 V2 := by rw [hV2']; exact setL_below _ _ _ _ _ (Nat.le_refl _)
  have nCV : V2.heap[w.heap.size + 1 + 1]? = some (.cells #[.string x.Name, .int .i64 x.No, .slice ya2 yl2 yc2, .slice ya3 yl3 yc3, .bool x.HasOld, .slice none 0 0, .slice none 0 0] 45 (0, 0)) := by rw [hV2']; exact setL_row _ _ _ _ _ _ nC2
  have HN2 : Hid (_ ∧ _ ∧ _) := ⟨(hkV _ (by omega)).trans nA2, (hkV _ (by omega)).trans nB2, nCV⟩
  have HB2 : Hid (Below w.heap.size w V2) := (HBW.out.trans (hb2.mono HBW.out.size)).trans (hbV.mono (by omega))
  have HO2 : Hid (CodeO d V2 [.slice ya2 yl2 yc2, .slice ya3 yl3 yc3] x.Cur fp2) := CodeO.lasts d _ _ _ _ _ hown2 fun g hg => hkV g (by have := (hfr2.2 g hg).1; omega)
  have HR2 : Hid (fp2.Nodup ∧ ∀ g ∈ fp2, W.heap.size ≤ g ∧ g < w2.heap.size) := ⟨hfr2.1, hfr2.2⟩
  have hC := H5.out V2 HB2.out
  rw [hV2] at hC
  have HV2 : Hid (V2 = _) := hV2
  have f4 : w2.cell? ⟨w.heap.size, 4, none⟩ = some (.bool x.HasOld) := by rw [cell_of_row w2 _ 4 _ _ _ nA2]; rfl
  have f5 : w2.cell? ⟨w.heap.size, 5, none⟩ = some (.slice a5 l5 c5) := by rw [cell_of_row w2 _ 5 _ _ _ nA2]; rfl
  have f6 : w2.cell? ⟨w.heap.size, 6, none⟩ = some (.slice a6 l6 c6) := by rw [cell_of_row w2 _ 6 _ _ _ nA2]; rfl
  have g2 : w2.cell? ⟨w.heap.size + 1 + 1, 2, none⟩ = some (.slice none 0 0) := by rw [cell_of_row w2 _ 2 _ _ _ nC2]; rfl
  have z2 : w2.frozen? ⟨w.heap.size + 1 + 1, 2, none⟩ = false := frozen_of_row w2 _ _ _ _ nC2
  have g3 : w2.cell? ⟨w.heap.size + 1 + 1, 3, none⟩ = some (.slice none 0 0) := by rw [cell_of_row w2 _ 3 _ _ _ nC2]; rfl
  have z3 : w2.frozen? ⟨w.heap.size + 1 + 1, 3, none⟩ = false := frozen_of_row w2 _ _ _ _ nC2
  have g4 : w2.cell? ⟨w.heap.size + 1 + 1, 4, none⟩ = some (.bool false) := by rw [cell_of_row w2 _ 4 _ _ _ nC2]; rfl
  have z4 : w2.frozen? ⟨w.heap.size + 1 + 1, 4, none⟩ = false := frozen_of_row w2 _ _ _ _ nC2
  clear hV2 hV2' nA2 nB2 nC2 nA nB nC nCV hkV hbV hown2 hfr2 hb2 HN
  go_wp2_with fail
  refine hC.mono ?_
  clear hC f4 f5 f6 g2 z2 g3 z3 g4 z4
  rintro e w5 ⟨vs5, fp5, rfl, hown5, hfr5, hb5⟩
  obtain ⟨ya5, yl5, yc5, ya6, yl6, yc6, rfl⟩ := HSO5.out _ _ _ hown5
  rw [← HV2.out] at hfr5 hb5
  obtain ⟨nA, nB, nC⟩ := HN2.out
  have zz5 := hb5.size
  have nA5 := (hb5.block _ (lt_row nA)).trans nA
  have nB5 := (hb5.block _ (lt_row nB)).trans nB
  have nC5 := (hb5.block _ (lt_row nC)).trans nC
  have HR5 : Hid (fp5.Nodup ∧ ∀ g ∈ fp5, V2.heap.size ≤ g ∧ g < w5.heap.size) := ⟨hfr5.1, hfr5.2⟩
  have HFIN : Hid (∀ Z, Kept (w.heap.size + 1) (w.heap.size + 1 + 1 + 1) w5 Z → EntryO d Z [.string x.Name, .int .i64 x.No, .slice ya2 yl2 yc2, .slice ya3 yl3 yc3, .bool x.HasOld, .slice ya5 yl5 yc5, .slice ya6 yl6 yc6] x (fp2 ++ (fp5)) ∧ Fresh w.heap.size Z (fp2 ++ (fp5)) ∧ Below w.heap.size w Z) := fun Z hZ => by
    have hzZ := hZ.size
    have hbw : Below w.heap.size w w5 := HB2.out.trans (hb5.mono HB2.out.size)
    have hwz := hbw.size
    have r2 := HR2.out
    have r5 := HR5.out
    refine ⟨⟨_, _, _, _, fp2, fp5, rfl, rfl, CodeO.lasts d _ _ _ _ _ HO2.out fun g hg => (hZ.block g (by have := (r2.2 g hg).2; omega) (.inr (by have := (r2.2 g hg).1; omega))).trans (hb5.block g (by have := (r2.2 g hg).2; omega)), CodeO.lasts d _ _ _ _ _ hown5 fun g hg => hZ.block g (r5.2 g hg).2 (.inr (by have := (r5.2 g hg).1; omega))⟩, ⟨?_, fun g hg => ?_⟩, ?_⟩
    · exact List.nodup_append.2 ⟨r2.1, r5.1, fun a ha b hb e => by subst e; have h1 := r2.2 a ha; have h2 := r5.2 a hb; omega⟩
    · simp only [List.mem_append] at hg
      rcases hg with hg | hg <;> first | (have h2 := r2.2 g hg; omega) | (have h2 := r5.2 g hg; omega)
    · exact hbw.trans (hZ.below (by omega) hbw.size)
  have g0 : w5.cell? ⟨w.heap.size + 1 + 1, 0, none⟩ = some (.string x.Name) := by rw [cell_of_row w5 _ 0 _ _ _ nC5]; rfl
  have z0 : w5.frozen? ⟨w.heap.size + 1 + 1, 0, none⟩ = false := frozen_of_row w5 _ _ _ _ nC5
  have b0 : w5.cell? ⟨w.heap.size + 1, 0, none⟩ = some (.string ⟨#[]⟩) := by rw [cell_of_row w5 _ 0 _ _ _ nB5]; rfl
  have u0 : w5.frozen? ⟨w.heap.size + 1, 0, none⟩ = false := frozen_of_row w5 _ _ _ _ nB5
  have g1 : w5.cell? ⟨w.heap.size + 1 + 1, 1, none⟩ = some (.int .i64 x.No) := by rw [cell_of_row w5 _ 1 _ _ _ nC5]; rfl
  have z1 : w5.frozen? ⟨w.heap.size + 1 + 1, 1, none⟩ = false := frozen_of_row w5 _ _ _ _ nC5
  have b1 : w5.cell? ⟨w.heap.size + 1, 1, none⟩ = some (.int .i64 0) := by rw [cell_of_row w5 _ 1 _ _ _ nB5]; rfl
  have u1 : w5.frozen? ⟨w.heap.size + 1, 1, none⟩ = false := frozen_of_row w5 _ _ _ _ nB5
  have g2 : w5.cell? ⟨w.heap.size + 1 + 1, 2, none⟩ = some (.slice ya2 yl2 yc2) := by rw [cell_of_row w5 _ 2 _ _ _ nC5]; rfl
  have z2 : w5.frozen? ⟨w.heap.size + 1 + 1, 2, none⟩ = false := frozen_of_row w5 _ _ _ _ nC5
  have b2 : w5.cell? ⟨w.heap.size + 1, 2, none⟩ = some (.slice none 0 0) := by rw [cell_of_row w5 _ 2 _ _ _ nB5]; rfl
  have u2 : w5.frozen? ⟨w.heap.size + 1, 2, none⟩ = false := frozen_of_row w5 _ _ _ _ nB5
  have g3 : w5.cell? ⟨w.heap.size + 1 + 1, 3, none⟩ = some (.slice ya3 yl3 yc3) := by rw [cell_of_row w5 _ 3 _ _ _ nC5]; rfl
  have z3 : w5.frozen? ⟨w.heap.size + 1 + 1, 3, none⟩ = false := frozen_of_row w5 _ _ _ _ nC5
  have b3 : w5.cell? ⟨w.heap.size + 1, 3, none⟩ = some (.slice none 0 0) := by rw [cell_of_row w5 _ 3 _ _ _ nB5]; rfl
  have u3 : w5.frozen? ⟨w.heap.size + 1, 3, none⟩ = false := frozen_of_row w5 _ _ _ _ nB5
  have g4 : w5.cell? ⟨w.heap.size + 1 + 1, 4, none⟩ = some (.bool x.HasOld) := by rw [cell_of_row w5 _ 4 _ _ _ nC5]; rfl
  have z4 : w5.frozen? ⟨w.heap.size + 1 + 1, 4, none⟩ = false := frozen_of_row w5 _ _ _ _ nC5
  have b4 : w5.cell? ⟨w.heap.size + 1, 4, none⟩ = some (.bool false) := by rw [cell_of_row w5 _ 4 _ _ _ nB5]; rfl
  have u4 : w5.frozen? ⟨w.heap.size + 1, 4, none⟩ = false := frozen_of_row w5 _ _ _ _ nB5
  have g5 : w5.cell? ⟨w.heap.size + 1 + 1, 5, none⟩ = some (.slice none 0 0) := by rw [cell_of_row w5 _ 5 _ _ _ nC5]; rfl
  have z5 : w5.frozen? ⟨w.heap.size + 1 + 1, 5, none⟩ = false := frozen_of_row w5 _ _ _ _ nC5
  have b5 : w5.cell? ⟨w.heap.size + 1, 5, none⟩ = some (.slice none 0 0) := by rw [cell_of_row w5 _ 5 _ _ _ nB5]; rfl
  have u5 : w5.frozen? ⟨w.heap.size + 1, 5, none⟩ = false := frozen_of_row w5 _ _ _ _ nB5
  have g6 : w5.cell? ⟨w.heap.size + 1 + 1, 6, none⟩ = some (.slice none 0 0) := by rw [cell_of_row w5 _ 6 _ _ _ nC5]; rfl
  have z6 : w5.frozen? ⟨w.heap.size + 1 + 1, 6, none⟩ = false := frozen_of_row w5 _ _ _ _ nC5
  have b6 : w5.cell? ⟨w.heap.size + 1, 6, none⟩ = some (.slice none 0 0) := by rw [cell_of_row w5 _ 6 _ _ _ nB5]; rfl
  have u6 : w5.frozen? ⟨w.heap.size + 1, 6, none⟩ = false := frozen_of_row w5 _ _ _ _ nB5
  clear nA5 nB5 nC5 nA nB nC hown5 hfr5 hb5 HN2
  go_wp2_with fail
  refine bodyPost_ret (v := .agg #[.string x.Name, .int .i64 x.No, .slice ya2 yl2 yc2, .slice ya3 yl3 yc3, .bool x.HasOld, .slice ya5 yl5 yc5, .slice ya6 yl6 yc6]) (by first | (simp [results, Try.results17, go_sem, b0, b1, b2, b3, b4, b5, b6]; done) | (simp [results, Try.results17, go_sem, b0, b1, b2, b3, b4, b5, b6]; rfl)) rfl ⟨[.string x.Name, .int .i64 x.No, .slice ya2 yl2 yc2, .slice ya3 yl3 yc3, .bool x.HasOld, .slice ya5 yl5 yc5, .slice ya6 yl6 yc6], fp2 ++ (fp5), rfl, HFIN.out _ ?_⟩
  repeat (first | with_reducible exact Kept.refl _ _ _ | with_reducible refine Kept.drew ?_ | (with_reducible refine Kept.set ?_ ?_; omega))

theorem toEntryS_any (d : Nat) : ToLs 7 7 45 (EntryR d) (EntryO d) (WfEntry d) (szEntryD d) := toEntryS_of _ _ _ _ (EntryR.lasts d) (EntryO.lasts d) (EntryR.shape d) (EntryO.shape d) (toEntry_any d)

set_option maxHeartbeats 4000000 in
theorem eqEntry_any (d : Nat) : EqEl 19 (EntryR d) (WfEntry d) := by
  rintro vs1 vs2 x w ⟨v2, v3, v5, v6, rfl, h0, h1⟩ ⟨v2z, v3z, v5z, v6z, rfl, k0, k1⟩ ⟨wName, wNo, wCur, wOld⟩
  obtain ⟨a2, l2, c2, a3, l3, c3, esh⟩ := CodeR.shape d _ _ _ h0
  cases esh
  obtain ⟨a5, l5, c5, a6, l6, c6, esh⟩ := CodeR.shape d _ _ _ h1
  cases esh
  obtain ⟨za2, zl2, zc2, za3, zl3, zc3, esz⟩ := CodeR.shape d _ _ _ k0
  cases esz
  obtain ⟨za5, zl5, zc5, za6, zl6, zc6, esz⟩ := CodeR.shape d _ _ _ k1
  cases esz
  obtain ⟨W, hW⟩ : ∃ W, W = (w.alloc (Obj.cells #[.string x.Name, .int .i64 x.No, .slice a2 l2 c2, .slice a3 l3 c3, .bool x.HasOld, .slice a5 l5 c5, .slice a6 l6 c6] 45)).alloc (Obj.cells #[.string x.Name, .int .i64 x.No, .slice za2 zl2 zc2, .slice za3 zl3 zc3, .bool x.HasOld, .slice za5 zl5 zc5, .slice za6 zl6 zc6] 45) := ⟨_, rfl⟩
  have hA : Below w.heap.size w W := by rw [hW]; exact ((Below.refl _ _).alloc (Nat.le_refl _) _).alloc (by simp) _
  have n1 : W.heap[w.heap.size]? = some (Obj.cells #[.string x.Name, .int .i64 x.No, .slice a2 l2 c2, .slice a3 l3 c3, .bool x.HasOld, .slice a5 l5 c5, .slice a6 l6 c6] 45 (0, 0)) := by rw [hW, Below.heap_alloc _ _ _ (by simp)]; exact heap_alloc_new w _
  have n2 : W.heap[w.heap.size + 1]? = some (Obj.cells #[.string x.Name, .int .i64 x.No, .slice za2 zl2 zc2, .slice za3 zl3 zc3, .bool x.HasOld, .slice za5 zl5 zc5, .slice za6 zl6 zc6] 45 (0, 0)) := by rw [hW]; have := heap_alloc_new (w.alloc (Obj.cells #[.string x.Name, .int .i64 x.No, .slice a2 l2 c2, .slice a3 l3 c3, .bool x.HasOld, .slice a5 l5 c5, .slice a6 l6 c6] 45)) (Obj.cells #[.string x.Name, .int .i64 x.No, .slice za2 zl2 zc2, .slice za3 zl3 zc3, .bool x.HasOld, .slice za5 zl5 zc5, .slice za6 zl6 zc6] 45); simpa using this
  have H2 : Hid (∀ V : World, Below w.heap.size w V → _) := fun V hV => eqCode_any d [.slice a2 l2 c2, .slice a3 l3 c3] [.slice za2 zl2 zc2, .slice za3 zl3 zc3] x.Cur V (CodeR.lasts d _ _ _ _ h0 hV) (CodeR.lasts d _ _ _ _ k0 hV) wCur
  have H5 : Hid (∀ V : World, Below w.heap.size w V → _) := fun V hV => eqCode_any d [.slice a5 l5 c5, .slice a6 l6 c6] [.slice za5 zl5 zc5, .slice za6 zl6 zc6] x.Old V (CodeR.lasts d _ _ _ _ h1 hV) (CodeR.lasts d _ _ _ _ k1 hV) wOld
  have HW : Hid (W = _) := hW
  have HN : Hid (Below w.heap.size w W ∧ _ ∧ _) := ⟨hA, n1, n2⟩
  clear n1 n2 h0 k0 wCur h1 k1 wOld
  clear hA
  have hC := H2.out W HN.out.1
  rw [hW] at hC
  clear hW
  go_enter Try.func19, Try.ntmps19
  go_wp2_with fail
  refine hC.mono ?_
  clear hC
  rintro e w2 ⟨rfl, hb2⟩
  rw [← HW.out] at hb2
  have HN2 : Hid (Below w.heap.size w w2 ∧ _ ∧ _) := ⟨HN.out.1.trans (hb2.mono HN.out.1.size), (hb2.block _ (lt_row HN.out.2.1)).trans HN.out.2.1, (hb2.block _ (lt_row HN.out.2.2)).trans HN.out.2.2⟩
  clear hb2
  have f4 : w2.cell? ⟨w.heap.size, 4, none⟩ = some (.bool x.HasOld) := by rw [cell_of_row w2 _ 4 _ _ _ HN2.out.2.1]; rfl
  have g4 : w2.cell? ⟨w.heap.size + 1, 4, none⟩ = some (.bool x.HasOld) := by rw [cell_of_row w2 _ 4 _ _ _ HN2.out.2.2]; rfl
  have f5 : w2.cell? ⟨w.heap.size, 5, none⟩ = some (.slice a5 l5 c5) := by rw [cell_of_row w2 _ 5 _ _ _ HN2.out.2.1]; rfl
  have g5 : w2.cell? ⟨w.heap.size + 1, 5, none⟩ = some (.slice za5 zl5 zc5) := by rw [cell_of_row w2 _ 5 _ _ _ HN2.out.2.2]; rfl
  have f6 : w2.cell? ⟨w.heap.size, 6, none⟩ = some (.slice a6 l6 c6) := by rw [cell_of_row w2 _ 6 _ _ _ HN2.out.2.1]; rfl
  have g6 : w2.cell? ⟨w.heap.size + 1, 6, none⟩ = some (.slice za6 zl6 zc6) := by rw [cell_of_row w2 _ 6 _ _ _ HN2.out.2.2]; rfl
  have hC := H5.out w2 HN2.out.1
  go_wp2_with fail
  refine hC.mono ?_
  clear hC f4 g4 f5 g5 f6 g6
  rintro e w5 ⟨rfl, hb5⟩
  have HN5 : Hid (Below w.heap.size w w5 ∧ _ ∧ _) := ⟨HN2.out.1.trans (hb5.mono HN2.out.1.size), (hb5.block _ (lt_row HN2.out.2.1)).trans HN2.out.2.1, (hb5.block _ (lt_row HN2.out.2.2)).trans HN2.out.2.2⟩
  clear hb5
  go_wp2
  go_ret
  exact ⟨rfl, HN5.out.1⟩

theorem eqEntryS_any (d : Nat) : EqLs 9 7 (EntryR d) (WfEntry d) := eqEntryS_of _ _ (EntryR.lasts d) (EntryR.shape d) (eqEntry_any d)

theorem Entry_at {d n c : Nat} {w : World} {a : Option Addr} {m : List (DEntry d)} (h : RowOf 7 (EntryR d) w (.slice a n c) m) (i : Nat) (x : (DEntry d)) (hx : m[i]? = some x) : ∃ (b o : Nat) (a2 : Option Addr) (l2 c2 : Nat) (a3 : Option Addr) (l3 c3 : Nat) (a5 : Option Addr) (l5 c5 : Nat) (a6 : Option Addr) (l6 c6 : Nat), a = some ⟨b, o, none⟩ ∧ w.cell? ⟨b, o + i * 7, none⟩ = some (.string x.Name) ∧ w.cell? ⟨b, o + i * 7 + 1, none⟩ = some (.int .i64 x.No) ∧ w.cell? ⟨b, o + i * 7 + 2, none⟩ = some (.slice a2 l2 c2) ∧ w.cell? ⟨b, o + i * 7 + 3, none⟩ = some (.slice a3 l3 c3) ∧ w.cell? ⟨b, o + i * 7 + 4, none⟩ = some (.bool x.HasOld) ∧ w.cell? ⟨b, o + i * 7 + 5, none⟩ = some (.slice a5 l5 c5) ∧ w.cell? ⟨b, o + i * 7 + 6, none⟩ = some (.slice a6 l6 c6) ∧ CodeR d w [.slice a2 l2 c2, .slice a3 l3 c3] x.Cur ∧ CodeR d w [.slice a5 l5 c5, .slice a6 l6 c6] x.Old := by
  obtain ⟨a', c', e, hel⟩ := h
  cases e
  obtain ⟨b, o, vs, h2, h3, h4, v2, v3, v5, v6, rfl, g0, g1⟩ := hel i x hx
  obtain ⟨a2, l2, c2, a3, l3, c3, esh⟩ := CodeR.shape d _ _ _ g0
  cases esh
  obtain ⟨a5, l5, c5, a6, l6, c6, esh⟩ := CodeR.shape d _ _ _ g1
  cases esh
  exact ⟨b, o, a2, l2, c2, a3, l3, c3, a5, l5, c5, a6, l6, c6, h2, h4 0 _ rfl, h4 1 _ rfl, h4 2 _ rfl, h4 3 _ rfl, h4 4 _ rfl, h4 5 _ rfl, h4 6 _ rfl, g0, g1⟩

theorem Try.cellsEntry : Try.prog.cellsOf 43 = 7 := by kernel_rfl
theorem Try.cellsEntrys : Try.prog.cellsOf 22 = 1 := by kernel_rfl
section
variable {H : Type} {enc : TypeId × Value → H} {W : World} {base : Nat} {spare : Nat → Bool} {held : Bool}

set_option maxRecDepth 100000 in
theorem read_EntryC (m d : Nat) (hd : m ≤ d) (cs : List Value) (x : DataW H × List MemPlace) (h : DataW.trod enc Try.prog W base spare held m 43 cs = some x) (hl : cs.length = 7) : ∃ f : DEntry d, EntryR d W cs f ∧ WfEntry d f := by
  obtain ⟨c0, c1, c2, c3, c4, c5, c6, rfl⟩ : ∃ c0 c1 c2 c3 c4 c5 c6, cs = [c0, c1, c2, c3, c4, c5, c6] := by
    match cs, hl with
    | [c0, c1, c2, c3, c4, c5, c6], _ => exact ⟨c0, c1, c2, c3, c4, c5, c6, rfl⟩
  obtain ⟨xs, m, rfl, _, _, hxl, hf⟩ := DataW.trod_struct Try.underlying43 h
  have hxl' : xs.length = 5 := hxl
  have h0 : DataW.trod enc Try.prog W base spare held m 9 [c0] = xs[0]? := by have := hf 0 _ rfl; simpa [Try.cells3, Try.cells4, Try.cells9, Try.cellsCode] using this
  have h1 : DataW.trod enc Try.prog W base spare held m 3 [c1] = xs[1]? := by have := hf 1 _ rfl; simpa [Try.cells3, Try.cells4, Try.cells9, Try.cellsCode] using this
  have h2 : DataW.trod enc Try.prog W base spare held m 32 [c2, c3] = xs[2]? := by have := hf 2 _ rfl; simpa [Try.cells3, Try.cells4, Try.cells9, Try.cellsCode] using this
  have h3 : DataW.trod enc Try.prog W base spare held m 4 [c4] = xs[3]? := by have := hf 3 _ rfl; simpa [Try.cells3, Try.cells4, Try.cells9, Try.cellsCode] using this
  have h4 : DataW.trod enc Try.prog W base spare held m 32 [c5, c6] = xs[4]? := by have := hf 4 _ rfl; simpa [Try.cells3, Try.cells4, Try.cells9, Try.cellsCode] using this
  rw [List.getElem?_eq_getElem (by omega)] at h0 h1 h2 h3 h4
  obtain ⟨x0, e0, _, q0⟩ := DataW.trod_string Try.underlying9 h0
  obtain ⟨x1, e1, _, q1⟩ := DataW.trod_int Try.underlying3 h1
  obtain ⟨x3, e3, _⟩ := DataW.trod_bool Try.underlying4 h3
  simp only [List.cons.injEq, and_true] at e0 e1 e3
  subst e0 e1 e3
  obtain ⟨x2, r2, q2⟩ := read_CodeC m d (by omega) _ _ h2 rfl
  obtain ⟨x4, r4, q4⟩ := read_CodeC m d (by omega) _ _ h4 rfl
  exact ⟨⟨x0, x1, x2, x3, x4⟩, ⟨_, _, _, _, rfl, r2, r4⟩, q0, bounds_i64 q1, q2, q4⟩

theorem read_Entrys {m d : Nat} (hd : m ≤ d) {v : Value} {x : DataW H × List MemPlace} (h : DataW.trod enc Try.prog W base spare held m 22 [v] = some x) : ∃ l : List (DEntry d), RowOf 7 (EntryR d) W v l ∧ WfRow (WfEntry d) l :=
  read_row (R := EntryR d) (P := WfEntry d) Try.underlying22 Try.cellsEntry (by omega) (fun n hn cs x hx hl => read_EntryC n d (by omega) cs x hx hl) h

set_option maxRecDepth 100000 in
theorem read_Entry {r : Reach} {b0 : Nat} {v : Value} {x : DataW H} {p : List MemPlace} (hv : Value.okWide Try.prog W r b0 43 v) (h : DataW.Trod enc Try.prog W base spare held 43 v x p) :
    ∃ M, ∀ d, M ≤ d → ∃ (vs : List Value) (e : DEntry d), v = .agg vs.toArray ∧ EntryR d W vs e ∧ WfEntry d e := by
  obtain ⟨cs, rfl, hsz⟩ := okWide_struct Try.underlying43 hv
  obtain ⟨fuel, hf⟩ := h
  have hf' : DataW.trod enc Try.prog W base spare held fuel 43 cs.toList = some (x, p) := hf
  refine ⟨fuel, fun d hd => ?_⟩
  obtain ⟨e, h1, h2⟩ := read_EntryC fuel d hd cs.toList _ hf' (by have := hsz.trans Try.cellsEntry; simpa using this)
  exact ⟨cs.toList, e, by simp, h1, h2⟩
end

end Go.Proofs.Ytahmbnokjfkfiaa
