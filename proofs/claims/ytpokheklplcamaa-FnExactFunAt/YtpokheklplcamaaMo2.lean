/- The law's own copy of functions and modules. -/
import Derived.Test.YtpokheklplcamaaMo1
namespace Go.Proofs.Ytpokheklplcamaa
open Go.RowKit
set_option linter.unusedVariables false

set_option maxHeartbeats 2000000 in
theorem toStrs_any : ToLs 106 1 9 StR StO StP ByteArray.size := by
  obtain ⟨i0, hi, hz0, hz1, hz2⟩ := info_parts Try.infoStr
  intro v xs w hr hw hz
  obtain ⟨a, c, rfl, hel⟩ := row_tell hr
  have HE : Hid (∀ (i : Nat) (s : ByteArray), xs[i]? = some s → ∃ b o, a = some ⟨b, o, none⟩ ∧ w.cell? ⟨b, o + i, none⟩ = some (.string s)) := hel
  obtain ⟨len, hlen⟩ : ∃ len, xs.length = len := ⟨_, rfl⟩
  have HLN : Hid (xs.length = len) := hlen
  have hm : len ≤ 1048576 := by have := sumP_all ByteArray.size xs; omega
  rw [hlen]
  clear hlen hel hw hz hr
  go_enter Try.func106, Try.ntmps106
  go_wp2_with (at_make; refine wpList_make_full _ rfl _ _ 29 rfl w.heap.size 9 i0 _ 1 Try.underlying29 hi hz0 hz1 _ _ _ _ len rfl rfl rfl rfl (by rw [hz2]; omega) (by unfold maxLen; omega) (Nat.le_refl _) ?_)
  intro w1 hown hgrow
  have hbel : Below w.heap.size w w1 := (Below.refl _ _).grown hgrow (Nat.le_refl _) (fun _ h => by cases h)
  obtain ⟨cur0, hc0, hs0⟩ : ∃ cur, w1.heap[w.heap.size]? = some (.cells cur 9 (0, 0)) ∧ cur.size = len * 1 := by
    rcases hown.2 with ⟨h', _⟩ | ⟨g', cap', cur, h', _, hg, _, _, hs, _⟩
    · simp at h'
    · simp only [Value.slice.injEq, Option.some.injEq, Addr.mk.injEq, and_true, true_and] at h'
      obtain ⟨rfl, rfl⟩ := h'
      exact ⟨cur, hg, hs⟩
  clear hown hgrow
  go_wp2
  go_loopw [4] (fun i wr => ∃ (k : Nat) (cur : Array Value) (fps : List (List Nat)), k ≤ len ∧ i = .int .i64 k ∧ wr.heap[w.heap.size]? = some (.cells cur 9 (0, 0)) ∧ cur.size = len * 1 ∧ fps.length = k ∧ fps.flatten.Nodup ∧ (∀ g ∈ fps.flatten, w.heap.size < g ∧ g < wr.heap.size) ∧ Below w.heap.size w wr ∧ Hid (DoneRow 1 StO xs k wr cur fps)) (fun i _ => len - (intOf i).toNat)
  case atStart => exact ⟨0, cur0, [], Nat.zero_le _, rfl, hc0, hs0, rfl, by simp, by simp, hbel, fun i t hi => by omega⟩
  case round =>
    clear hc0 hs0 hbel
    obtain ⟨k, cur, fps, hk, rfl, hh, hcs, hfl, hnd, hfr, hb, HD⟩ := hrel
    have hwz : w.heap.size < wr.heap.size := lt_row hh
    by_cases hkl : k < len
    · obtain ⟨t, ht⟩ : ∃ t, xs[k]? = some t := ⟨_, List.getElem?_eq_getElem (by rw [HLN.out]; exact hkl)⟩
      obtain ⟨b, o, rfl, f0⟩ := HE.out k t ht
      have f1 := cell_later hb f0
      have hsz : k < cur.size := by omega
      have c0 : wr.cell? ⟨w.heap.size, k, none⟩ = some cur[k] := by rw [cell_of_row wr _ _ _ _ _ hh]; exact Array.getElem?_eq_getElem hsz
      have z0 : wr.frozen? ⟨w.heap.size, k, none⟩ = false := frozen_of_row wr _ _ _ _ hh
      obtain ⟨S1, S2, S3, S4, S5, S6, S7⟩ := row_step StO.lasts hkl hcs hfl hnd hfr hwz hb (Below.refl _ _) HD.out ht (vs := [.string t]) rfl ⟨rfl, rfl⟩ ⟨List.nodup_nil, fun g hg => by cases hg⟩ hh
      have e1 : setL wr w.heap.size (k * 1) [.string t] = wr.setCell ⟨w.heap.size, k, none⟩ (.string t) := by rw [Nat.mul_one]; rfl
      rw [e1] at S1 S5 S6 S7
      have HS : Hid ((_ ∧ _ ∧ _ ∧ _ ∧ _ ∧ _) ∧ _) := ⟨⟨S1, S2, S3, S4, S5, S6⟩, S7⟩
      have hkl' : (k : Int) < (len : Int) := by omega
      clear S1 S2 S3 S4 S5 S6 S7 hh hcs hfl hnd hfr hb HD f0 ht e1
      go_wp2
      go_roundw
      case rel => exact ⟨k + 1, _, _, by omega, by go_num, HS.out.1.1, HS.out.1.2.1, HS.out.1.2.2.1, HS.out.1.2.2.2.1, HS.out.1.2.2.2.2.1, HS.out.1.2.2.2.2.2, HS.out.2⟩
      case measure => simp [intOf]; omega
    · obtain rfl : k = len := by omega
      have HO := row_done (T := 9) (w := w) HLN.out hfl hnd hfr hwz hh HD.out
      have HFF : Hid _ := HO
      clear HO hh hcs hfl hnd hfr HD
      go_wp2
      go_ret
      exact ⟨_, _, _, _, rfl, HFF.out.1, HFF.out.2, hb⟩

set_option maxRecDepth 100000 in
set_option maxHeartbeats 2000000 in
theorem toFun_any (d : Nat) : ToEl 84 (FuR d) (FuO d) (WfF d) (szF d) := by
  rintro vs x w ⟨vp, vx, rfl, h1, h2⟩ ⟨_, w2, w3⟩ hz
  have hz' : x.nm.size + szRow ByteArray.size x.ps + szX d x.x ≤ 1048576 := hz
  obtain ⟨a1, c1, rfl⟩ := h1.slice
  obtain ⟨l1, e1⟩ : ∃ l, x.ps.length = l := ⟨_, rfl⟩
  rw [e1] at h1 ⊢
  obtain ⟨i2, i3, s4, a5, l5, c5, a6, l6, c6, rfl⟩ := ExR.shape d _ _ _ h2
  obtain ⟨S, hS⟩ : ∃ S, x.nm = S := ⟨_, rfl⟩
  have HX : Hid (x.nm = S) := hS
  rw [hS]
  obtain ⟨W, hW⟩ : ∃ W, W = ((w.alloc (Obj.cells #[.string S, .slice a1 l1 c1, .int .i64 i2, .int .i64 i3, .string s4, .slice a5 l5 c5, .slice a6 l6 c6] 142)).alloc (.cells #[.string ⟨#[]⟩, .slice none 0 0, .int .i64 0, .int .i64 0, .string ⟨#[]⟩, .slice none 0 0, .slice none 0 0] 100)).alloc (.cells #[.string S, .slice none 0 0, .int .i64 0, .int .i64 0, .string ⟨#[]⟩, .slice none 0 0, .slice none 0 0] 100) := ⟨_, rfl⟩
  obtain ⟨nA, nB, nC⟩ := heap_three w (Obj.cells #[.string S, .slice a1 l1 c1, .int .i64 i2, .int .i64 i3, .string s4, .slice a5 l5 c5, .slice a6 l6 c6] 142) (.cells #[.string ⟨#[]⟩, .slice none 0 0, .int .i64 0, .int .i64 0, .string ⟨#[]⟩, .slice none 0 0, .slice none 0 0] 100) (.cells #[.string S, .slice none 0 0, .int .i64 0, .int .i64 0, .string ⟨#[]⟩, .slice none 0 0, .slice none 0 0] 100)
  rw [← hW] at nA nB nC
  have hWb : Below w.heap.size w W := by rw [hW]; exact (((Below.refl _ _).alloc (Nat.le_refl _) _).alloc (by simp) _).alloc (by simp; omega) _
  have hWs : W.heap.size = w.heap.size + 1 + 1 + 1 := by rw [hW]; simp
  have hC := toStrs_any _ _ W (h1.later StR.lasts hWb) w2 (by omega)
  have HR2 : Hid (∀ V : World, Below w.heap.size w V → _) := fun V hV => toExpr_any d _ x.x V (ExR.lasts d _ _ _ _ h2 hV) w3 (by omega)
  have HSO : Hid (∀ (V : World) (vs : List Value) (f : List Nat), ExO d V vs x.x f → ShExpr vs) := fun V vs f h => ExO.shape d V vs x.x f h
  rw [hW] at hC
  have HW : Hid (W = _) := hW
  have HN : Hid (_ ∧ _ ∧ _) := ⟨nA, nB, nC⟩
  clear hW h1 h2 nA nB nC w2 w3 hz hz' hS e1
  go_enter Try.func84, Try.ntmps84
  go_wp2_with fail
  refine hC.mono ?_
  clear hC
  rintro e w1 ⟨ya1, yl1, yc1, fp1, rfl, hown1, hfr1, hb1⟩
  rw [← HW.out] at hfr1 hb1
  obtain ⟨nA, nB, nC⟩ := HN.out
  have nA1 := (hb1.block _ (by omega)).trans nA
  have nB1 := (hb1.block _ (by omega)).trans nB
  have nC1 := (hb1.block _ (by omega)).trans nC
  obtain ⟨V1, hV1⟩ : ∃ V, V = w1.setCell ⟨w.heap.size + 1 + 1, 1, none⟩ (.slice ya1 yl1 yc1) := ⟨_, rfl⟩
  have hV1' : V1 = setL w1 (w.heap.size + 1 + 1) 1 [.slice ya1 yl1 yc1] := hV1
  have hzV : V1.heap.size = w1.heap.size := by rw [hV1']; exact setL_size _ _ _ _
  have hkV : ∀ j, j ≠ w.heap.size + 1 + 1 → V1.heap[j]? = w1.heap[j]? := fun j hj => by rw [hV1']; exact setL_other _ _ _ _ _ hj
  have hbV : Below (w.heap.size + 1 + 1) w1 V1 := by rw [hV1']; exact setL_below _ _ _ _ _ (Nat.le_refl _)
  have nAV := (hkV _ (by omega)).trans nA1
  have nBV := (hkV _ (by omega)).trans nB1
  have nCV : V1.heap[w.heap.size + 1 + 1]? = some (.cells #[.string S, .slice ya1 yl1 yc1, .int .i64 0, .int .i64 0, .string ⟨#[]⟩, .slice none 0 0, .slice none 0 0] 100 (0, 0)) := by rw [hV1']; exact setL_row _ _ _ _ _ _ nC1
  have hbw1 : Below w.heap.size w w1 := hWb.trans (hb1.mono hWb.size)
  have hbwV : Below w.heap.size w V1 := hbw1.trans (hbV.mono (by omega))
  have hown1V := hown1.frame (w' := V1) StO.lasts fun g hg => hkV g (by have := (hfr1.2 g hg).1; omega)
  have hz1 := hb1.size
  have hD := HR2.out V1 hbwV
  rw [hV1] at hD
  have HV1 : Hid (V1 = _) := hV1
  have HO1 : Hid (OwnRow 1 9 StO V1 (.slice ya1 yl1 yc1) x.ps fp1) := hown1V
  have HB1 : Hid (Below w.heap.size w V1 ∧ Fresh W.heap.size w1 fp1 ∧ V1.heap.size = w1.heap.size) := ⟨hbwV, hfr1, hzV⟩
  have HNV : Hid (_ ∧ _ ∧ _) := ⟨nAV, nBV, nCV⟩
  have f2 : w1.cell? ⟨w.heap.size, 2, none⟩ = some (.int .i64 i2) := by rw [cell_of_row w1 _ 2 _ _ _ nA1]; rfl
  have f3 : w1.cell? ⟨w.heap.size, 3, none⟩ = some (.int .i64 i3) := by rw [cell_of_row w1 _ 3 _ _ _ nA1]; rfl
  have f4 : w1.cell? ⟨w.heap.size, 4, none⟩ = some (.string s4) := by rw [cell_of_row w1 _ 4 _ _ _ nA1]; rfl
  have f5 : w1.cell? ⟨w.heap.size, 5, none⟩ = some (.slice a5 l5 c5) := by rw [cell_of_row w1 _ 5 _ _ _ nA1]; rfl
  have f6 : w1.cell? ⟨w.heap.size, 6, none⟩ = some (.slice a6 l6 c6) := by rw [cell_of_row w1 _ 6 _ _ _ nA1]; rfl
  have g1 : w1.cell? ⟨w.heap.size + 1 + 1, 1, none⟩ = some (.slice none 0 0) := by rw [cell_of_row w1 _ 1 _ _ _ nC1]; rfl
  have z1 : w1.frozen? ⟨w.heap.size + 1 + 1, 1, none⟩ = false := frozen_of_row w1 _ _ _ _ nC1
  clear hV1 hV1' nA1 nB1 nC1 nA nB nC nAV nBV nCV hbw1 hbwV hown1V hown1 hfr1 hkV hbV HN HR2 hb1 hzV
  go_wp2_with fail
  refine hD.mono ?_
  clear hD f2 f3 f4 f5 f6 g1 z1
  rintro e w2 ⟨vs2, fp2, rfl, hown2, hfr2, hb2⟩
  obtain ⟨j2, j3, t4, r5, m5, d5, r6, m6, d6, rfl⟩ := HSO.out _ _ _ hown2
  have hfr2' : Fresh V1.heap.size w2 fp2 := by rw [HV1.out]; exact hfr2
  have hb2' : Below V1.heap.size V1 w2 := by rw [HV1.out]; exact hb2
  clear hfr2 hb2
  obtain ⟨nAV, nBV, nCV⟩ := HNV.out
  have hzB := HB1.out.2.2
  have nB2 := (hb2'.block _ (lt_row nBV)).trans nBV
  have nC2 := (hb2'.block _ (lt_row nCV)).trans nCV
  have hz2 := hb2'.size
  have HFIN : Hid (∀ Z, Kept (w.heap.size + 1) (w.heap.size + 1 + 1 + 1) w2 Z → FuO d Z [.string S, .slice ya1 yl1 yc1, .int .i64 j2, .int .i64 j3, .string t4, .slice r5 m5 d5, .slice r6 m6 d6] x (fp1 ++ fp2) ∧ Fresh w.heap.size Z (fp1 ++ fp2) ∧ Below w.heap.size w Z) := fun Z hZ => by
    have hf1 := HB1.out.2.1
    have hzZ := hZ.size
    obtain rfl := HX.out
    refine ⟨⟨_, _, fp1, fp2, rfl, rfl, ?_, ?_⟩, ?_, ?_⟩
    · refine HO1.out.frame StO.lasts fun g hg => ?_
      have := hf1.2 g hg
      exact (hZ.block g (by omega) (.inr (by omega))).trans (hb2'.block g (by omega))
    · exact ExO.lasts d _ _ _ _ _ hown2 fun g hg => hZ.block g (hfr2'.2 g hg).2 (.inr (by have := (hfr2'.2 g hg).1; omega))
    · exact fresh_two hf1 hfr2' (by omega) hz2 hzZ (by omega) (by omega)
    · have hbw2 : Below w.heap.size w w2 := HB1.out.1.trans (hb2'.mono HB1.out.1.size)
      exact hbw2.trans (hZ.below (by omega) hbw2.size)
  have bcell : ∀ j u, (#[.string ⟨#[]⟩, .slice none 0 0, .int .i64 0, .int .i64 0, .string ⟨#[]⟩, .slice none 0 0, .slice none 0 0] : Array Value)[j]? = some u → w2.cell? ⟨w.heap.size + 1, j, none⟩ = some u := fun j u hu => by rw [cell_of_row w2 _ _ _ _ _ nB2]; exact hu
  have ccell : ∀ j u, (#[.string S, .slice ya1 yl1 yc1, .int .i64 0, .int .i64 0, .string ⟨#[]⟩, .slice none 0 0, .slice none 0 0] : Array Value)[j]? = some u → w2.cell? ⟨w.heap.size + 1 + 1, j, none⟩ = some u := fun j u hu => by rw [cell_of_row w2 _ _ _ _ _ nC2]; exact hu
  have hfB : ∀ j, w2.frozen? ⟨w.heap.size + 1, j, none⟩ = false := fun j => frozen_of_row w2 _ _ _ _ nB2
  have hfC : ∀ j, w2.frozen? ⟨w.heap.size + 1 + 1, j, none⟩ = false := fun j => frozen_of_row w2 _ _ _ _ nC2
  have b0 := bcell 0 _ rfl
  have y0 := hfB 0
  have g0 := ccell 0 _ rfl
  have z0 := hfC 0
  have b1 := bcell 1 _ rfl
  have y1 := hfB 1
  have g1 := ccell 1 _ rfl
  have z1 := hfC 1
  have b2 := bcell 2 _ rfl
  have y2 := hfB 2
  have g2 := ccell 2 _ rfl
  have z2 := hfC 2
  have b3 := bcell 3 _ rfl
  have y3 := hfB 3
  have g3 := ccell 3 _ rfl
  have z3 := hfC 3
  have b4 := bcell 4 _ rfl
  have y4 := hfB 4
  have g4 := ccell 4 _ rfl
  have z4 := hfC 4
  have b5 := bcell 5 _ rfl
  have y5 := hfB 5
  have g5 := ccell 5 _ rfl
  have z5 := hfC 5
  have b6 := bcell 6 _ rfl
  have y6 := hfB 6
  have g6 := ccell 6 _ rfl
  have z6 := hfC 6
  clear nB2 nC2 nAV nBV nCV hown2 hfr2' hb2' HO1 HB1 HNV bcell ccell hfB hfC
  go_wp2_with fail
  refine bodyPost_ret (v := .agg #[.string S, .slice ya1 yl1 yc1, .int .i64 j2, .int .i64 j3, .string t4, .slice r5 m5 d5, .slice r6 m6 d6]) (by first | (simp [results, Try.results84, go_sem, b0, b1, b2, b3, b4, b5, b6]; done) | (simp [results, Try.results84, go_sem, b0, b1, b2, b3, b4, b5, b6]; rfl)) rfl ⟨[.string S, .slice ya1 yl1 yc1, .int .i64 j2, .int .i64 j3, .string t4, .slice r5 m5 d5, .slice r6 m6 d6], _, rfl, HFIN.out _ ?_⟩
  repeat (first | with_reducible exact Kept.refl _ _ _ | with_reducible refine Kept.drew ?_ | (with_reducible refine Kept.set ?_ ?_; omega))

theorem toFunS_any (d : Nat) : ToLs 56 7 100 (FuR d) (FuO d) (WfF d) (szF d) := toFunS_of _ _ _ _ (FuR.lasts d) (FuO.lasts d) (FuR.shape d) (FuO.shape d) (toFun_any d)

set_option maxHeartbeats 1000000 in
theorem toModule_any (d : Nat) (v : Value) (m : List (Fu d)) (w : World) (hr : RowOf 7 (FuR d) w v m) (hw : WfRow (WfF d) m) (hz : szM d m ≤ 1048576) :
    Calls Try.prog 30 #[.agg #[v]] w fun e w' => ∃ a l c fp, e = .returned (.agg #[.slice a l c]) ∧ OwnRow 7 100 (FuO d) w' (.slice a l c) m fp ∧ Fresh w.heap.size w' fp ∧ Below w.heap.size w w' := by
  obtain ⟨a, c, e⟩ := hr.slice
  obtain ⟨len, hl⟩ : ∃ l, m.length = l := ⟨_, rfl⟩
  rw [hl] at e
  subst e
  obtain ⟨W, hW⟩ : ∃ W, W = ((w.alloc (Obj.cells #[.slice a len c] 49)).alloc (.cells #[.slice none 0 0] 54)).alloc (.cells #[.slice none 0 0] 54) := ⟨_, rfl⟩
  obtain ⟨nA, nB, nC⟩ := heap_three w (Obj.cells #[.slice a len c] 49) (.cells #[.slice none 0 0] 54) (.cells #[.slice none 0 0] 54)
  rw [← hW] at nA nB nC
  have hWb : Below w.heap.size w W := by rw [hW]; exact (((Below.refl _ _).alloc (Nat.le_refl _) _).alloc (by simp) _).alloc (by simp; omega) _
  have hWs : W.heap.size = w.heap.size + 1 + 1 + 1 := by rw [hW]; simp
  have hC := toFunS_any d _ m W (hr.later (FuR.lasts d) hWb) hw hz
  rw [hW] at hC
  have HW : Hid (W = _) := hW
  have HN : Hid (_ ∧ _) := ⟨nB, nC⟩
  clear hW hr hw hz nA nB nC hl
  go_enter Try.func30, Try.ntmps30
  go_wp2_with fail
  refine hC.mono ?_
  clear hC
  rintro e w1 ⟨a1, l1, c1, fp, rfl, hown, hfr, hb⟩
  rw [← HW.out] at hfr hb
  obtain ⟨nB, nC⟩ := HN.out
  have nB1 := (hb.block _ (by omega)).trans nB
  have nC1 := (hb.block _ (by omega)).trans nC
  have b0 : w1.cell? ⟨w.heap.size + 1, 0, none⟩ = some (.slice none 0 0) := by rw [cell_of_row w1 _ 0 _ _ _ nB1]; rfl
  have g0 : w1.cell? ⟨w.heap.size + 1 + 1, 0, none⟩ = some (.slice none 0 0) := by rw [cell_of_row w1 _ 0 _ _ _ nC1]; rfl
  have y0 : w1.frozen? ⟨w.heap.size + 1, 0, none⟩ = false := frozen_of_row w1 _ _ _ _ nB1
  have z0 : w1.frozen? ⟨w.heap.size + 1 + 1, 0, none⟩ = false := frozen_of_row w1 _ _ _ _ nC1
  have HFIN : Hid (∀ Z, Kept (w.heap.size + 1) (w.heap.size + 1 + 1 + 1) w1 Z → OwnRow 7 100 (FuO d) Z (.slice a1 l1 c1) m fp ∧ Fresh w.heap.size Z fp ∧ Below w.heap.size w Z) := fun Z hZ => by
    have hzZ := hZ.size
    have hbw1 : Below w.heap.size w w1 := hWb.trans (hb.mono hWb.size)
    refine ⟨hown.frame (FuO.lasts d) fun g hg => hZ.block g (hfr.2 g hg).2 (.inr (by have := (hfr.2 g hg).1; omega)), ⟨hfr.1, fun g hg => ?_⟩, hbw1.trans (hZ.below (by omega) hbw1.size)⟩
    have := hfr.2 g hg
    omega
  clear nB nC nB1 nC1 hown hfr hb HN HW
  go_wp2_with fail
  refine bodyPost_ret (v := .agg #[.slice a1 l1 c1]) (by first | (simp [results, Try.results30, go_sem, b0]; done) | (simp [results, Try.results30, go_sem, b0]; rfl)) rfl ⟨a1, l1, c1, fp, rfl, HFIN.out _ ?_⟩
  repeat (first | with_reducible exact Kept.refl _ _ _ | with_reducible refine Kept.drew ?_ | (with_reducible refine Kept.set ?_ ?_; omega))

end Go.Proofs.Ytpokheklplcamaa
