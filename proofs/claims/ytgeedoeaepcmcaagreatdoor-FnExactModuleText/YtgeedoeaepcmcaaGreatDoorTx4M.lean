/- The program's text of an expression, whole. -/
import Derived.Test.YtgeedoeaepcmcaaGreatDoorTx3M
namespace Go.Proofs.YtgeedoeaepcmcaaGreatDoor
open Go.RowKit
set_option linter.unusedVariables false

def clT (d : Nat) (c : Ex d × Ex d) : List UInt8 := (txtX d c.1 ++ arr) ++ txtX d c.2

theorem clT_len {d : Nat} {deep : Int} {c : Ex d × Ex d} (h : GoodX d true deep c.1 ∧ GoodX d false deep c.2) : 2 + (clT d c).length ≤ 32 * ClF (cntX d) c := by
  have h4 := txtX_len d true deep c.1 h.1
  have h5 := txtX_len d false deep c.2 h.2
  show 2 + ((txtX d c.1 ++ arr) ++ txtX d c.2).length ≤ 32 * (cntX d c.1 + cntX d c.2)
  rw [List.length_append, List.length_append]
  have : arr.length = 4 := rfl
  omega
theorem cl_lim {d : Nat} {deep : Int} {cs : List (Ex d × Ex d)} (hg : ∀ c ∈ cs, GoodX d true deep c.1 ∧ GoodX d false deep c.2) (j : Nat) (t : Ex d × Ex d) (ht : cs[j]? = some t) : (joinS smc ((cs.map (clT d)).take j)).length + 32 * cntX d t.1 + 32 * cntX d t.2 ≤ 32 * (cs.map (ClF (cntX d))).sum := by
  have h1 := joinS_len smc ((cs.map (clT d)).take j)
  have h2 : (((cs.map (clT d)).take j).map fun x => smc.length + x.length).sum ≤ 32 * sumP (ClF (cntX d)) cs j := by
    unfold sumP
    rw [← List.map_take, List.map_map, ← sum_map_mul]
    exact sum_map_le _ _ _ fun x hx => clT_len (hg x (List.mem_of_mem_take hx))
  have h3 := sumP_succ (ClF (cntX d)) cs j t ht
  have h4 := sumP_le (ClF (cntX d)) cs (j + 1)
  have h5 : ClF (cntX d) t = cntX d t.1 + cntX d t.2 := rfl
  omega

set_option maxRecDepth 100000 in
set_option maxHeartbeats 4000000 in
theorem writeClauses_of (d : Nat) (H : WxC d) (w0 : World) (b : Nat) (l : List UInt8) (a : Option Addr) (c : Nat) (cs : List (Ex d × Ex d)) (deep : Int) (w : World) (he : ∀ (i : Nat) (e : Ex d × Ex d), cs[i]? = some e → ∃ b o vs, a = some ⟨b, o, none⟩ ∧ vs.length = 10 ∧ (∀ (j : Nat) (u : Value), vs[j]? = some u → w0.cell? ⟨b, o + i * 10 + j, none⟩ = some u) ∧ ClR (ExC d) w0 vs e) (hg : ∀ c ∈ cs, GoodX d true deep c.1 ∧ GoodX d false deep c.2) (ht : TabOk w0) (hB : Bd w0 b l w) (hl : cs.length ≤ 1048576) (hcs : (cs.map (ClF (cntX d))).sum ≤ 1000) (hn : l.length + 32 * (cs.map (ClF (cntX d))).sum + 10 ≤ 1000000) :
    Calls Tryz.prog 29 #[.pointer (some ⟨b, 0, none⟩), .slice a cs.length c] w fun r w' => r = .returned (.tuple #[]) ∧ Hid (Bd w0 b (l ++ joinS smc (cs.map (clT d))) w') ∧ Hid (BoxKept b w w') := by
  have HE : Hid (∀ (i : Nat) (e : Ex d × Ex d), cs[i]? = some e → ∃ b o vs, a = some ⟨b, o, none⟩ ∧ vs.length = 10 ∧ (∀ (j : Nat) (u : Value), vs[j]? = some u → w0.cell? ⟨b, o + i * 10 + j, none⟩ = some u) ∧ ClR (ExC d) w0 vs e) := he
  have HG : Hid (∀ c ∈ cs, GoodX d true deep c.1 ∧ GoodX d false deep c.2) := hg
  have HT : Hid (TabOk w0) := ht
  have HCS : Hid ((cs.map (ClF (cntX d))).sum ≤ 1000) := hcs
  have HH : Hid (WxC d) := H
  have HB0 : Hid (Bd w0 b l w) := hB
  have HLM : Hid (∀ (j : Nat) (t : Ex d × Ex d), cs[j]? = some t → (joinS smc ((cs.map (clT d)).take j)).length + 32 * cntX d t.1 + 32 * cntX d t.2 ≤ 32 * (cs.map (ClF (cntX d))).sum) := fun j t ht => cl_lim hg j t ht
  obtain ⟨len, hlen⟩ : ∃ l, cs.length = l := ⟨_, rfl⟩
  have HL : Hid (cs.length = len) := hlen
  obtain ⟨M, hM⟩ : ∃ m, (cs.map (ClF (cntX d))).sum = m := ⟨_, rfl⟩
  rw [hM] at HLM hn
  rw [hlen] at hl ⊢
  clear he hg ht H hB hlen hM hcs
  go_enter Tryz.func29, Tryz.ntmps29
  go_wp2_with fail
  go_loopw [8] (fun i wr => ∃ j : Nat, j ≤ len ∧ i = .int .i64 j ∧ Hid (Bd w0 b (l ++ joinS smc ((cs.map (clT d)).take j)) wr) ∧ Hid (BoxKept b w wr)) (fun i _ => len - (intOf i).toNat)
  case atStart => exact ⟨0, Nat.zero_le _, rfl, by show Bd w0 b (l ++ []) w; rw [List.append_nil]; exact HB0.out, BoxKept.refl _ _⟩
  case round =>
    clear HB0
    obtain ⟨j, hj, rfl, HB, HK⟩ := hrel
    have hbw : Below w0.heap.size w0 wr := HB.out.2
    by_cases hjl : j < len
    · obtain ⟨⟨t, u⟩, ht⟩ : ∃ t, cs[j]? = some t := ⟨_, List.getElem?_eq_getElem (by have := HL.out; omega)⟩
      obtain ⟨bb, o, vs, rfl, hvl, hcell, pv, qv, rfl, hre, hru⟩ := HE.out j (t, u) ht
      obtain ⟨y0, y1, y2, ya3, yl3, yc3, ya4, yl4, yc4, rfl⟩ := ExC.shape _ _ _ _ hre
      obtain ⟨z0, z1, z2, za3, zl3, zc3, za4, zl4, zc4, rfl⟩ := ExC.shape _ _ _ _ hru
      have f0 : wr.cell? ⟨bb, o + j * 10, none⟩ = some _ := cell_later hbw (hcell 0 _ rfl)
      have f1 : wr.cell? ⟨bb, o + j * 10 + 1, none⟩ = some _ := cell_later hbw (hcell 1 _ rfl)
      have f2 : wr.cell? ⟨bb, o + j * 10 + 2, none⟩ = some _ := cell_later hbw (hcell 2 _ rfl)
      have f3 : wr.cell? ⟨bb, o + j * 10 + 3, none⟩ = some _ := cell_later hbw (hcell 3 _ rfl)
      have f4 : wr.cell? ⟨bb, o + j * 10 + 4, none⟩ = some _ := cell_later hbw (hcell 4 _ rfl)
      have f5 : wr.cell? ⟨bb, o + j * 10 + 5, none⟩ = some _ := cell_later hbw (hcell 5 _ rfl)
      have f6 : wr.cell? ⟨bb, o + j * 10 + 6, none⟩ = some _ := cell_later hbw (hcell 6 _ rfl)
      have f7 : wr.cell? ⟨bb, o + j * 10 + 7, none⟩ = some _ := cell_later hbw (hcell 7 _ rfl)
      have f8 : wr.cell? ⟨bb, o + j * 10 + 8, none⟩ = some _ := cell_later hbw (hcell 8 _ rfl)
      have f9 : wr.cell? ⟨bb, o + j * 10 + 9, none⟩ = some _ := cell_later hbw (hcell 9 _ rfl)
      have hlm : (joinS smc ((cs.map (clT d)).take j)).length + 32 * cntX d t + 32 * cntX d u ≤ 32 * M := HLM.out j _ ht
      have hst := joinS_succ smc (cs.map (clT d)) j (clT d (t, u)) (by rw [List.getElem?_map, ht]; rfl)
      have hgd := HG.out _ (List.mem_of_getElem? ht)
      have htl := txtX_len d true deep t hgd.1
      have hcp : cntX d t ≤ 1000 ∧ cntX d u ≤ 1000 := by
        have h8 := sum_mem (ClF (cntX d)) (List.mem_of_getElem? ht)
        have h9 : ClF (cntX d) (t, u) = cntX d t + cntX d u := rfl
        have := HCS.out
        omega
      obtain ⟨W, hW⟩ : ∃ W, W = wr.alloc (.cells #[.int .i64 y0, .int .i64 y1, .string y2, .slice ya3 yl3 yc3, .slice ya4 yl4 yc4, .int .i64 z0, .int .i64 z1, .string z2, .slice za3 zl3 zc3, .slice za4 zl4 zc4] 67) := ⟨_, rfl⟩
      have hwW : Below wr.heap.size wr W := by rw [hW]; exact (Below.refl _ _).alloc (Nat.le_refl _) _
      have hbox : W.heap[wr.heap.size]? = some (.cells #[.int .i64 y0, .int .i64 y1, .string y2, .slice ya3 yl3 yc3, .slice ya4 yl4 yc4, .int .i64 z0, .int .i64 z1, .string z2, .slice za3 zl3 zc3, .slice za4 zl4 zc4] 67 (0, 0)) := by rw [hW]; exact heap_alloc_new wr _
      have HBW : Hid (Bd w0 b (l ++ joinS smc ((cs.map (clT d)).take j)) W) := HB.out.later hwW
      have HKW : Hid (BoxKept b w W) := HK.out.trans (BoxKept.of_below hwW)
      have hbne : wr.heap.size ≠ b := fun e => by have := HB.out.blt; omega
      have HC1 : Hid (∀ (m : List UInt8) (X : World), Bd w0 b m X → m.length + 32 * cntX d t ≤ 1000000 → Calls Tryz.prog 16 #[.pointer (some ⟨b, 0, none⟩), .agg #[.int .i64 y0, .int .i64 y1, .string y2, .slice ya3 yl3 yc3, .slice ya4 yl4 yc4]] X fun r w' => r = .returned (.tuple #[]) ∧ Hid (Bd w0 b (m ++ txtX d t) w') ∧ Hid (BoxKept b X w')) := fun m X hX hm => HH.out w0 b m _ t true deep X hre hgd.1 HT.out hX hcp.1 hm
      have HC2 : Hid (∀ (m : List UInt8) (X : World), Bd w0 b m X → m.length + 32 * cntX d u ≤ 1000000 → Calls Tryz.prog 16 #[.pointer (some ⟨b, 0, none⟩), .agg #[.int .i64 z0, .int .i64 z1, .string z2, .slice za3 zl3 zc3, .slice za4 zl4 zc4]] X fun r w' => r = .returned (.tuple #[]) ∧ Hid (Bd w0 b (m ++ txtX d u) w') ∧ Hid (BoxKept b X w')) := fun m X hX hm => HH.out w0 b m _ u false deep X hru hgd.2 HT.out hX hcp.2 hm
      have HW : Hid (W = _) := hW
      have hjl' : (j : Int) < (len : Int) := by omega
      obtain ⟨J, hJ⟩ : ∃ J, joinS smc ((cs.map (clT d)).take j) = J := ⟨_, rfl⟩
      rw [hJ] at hlm hst HBW
      have HBX : Hid (∀ X : World, BoxKept b W X → X.heap[wr.heap.size]? = some (.cells #[.int .i64 y0, .int .i64 y1, .string y2, .slice ya3 yl3 yc3, .slice ya4 yl4 yc4, .int .i64 z0, .int .i64 z1, .string z2, .slice za3 zl3 zc3, .slice za4 zl4 zc4] 67 (0, 0))) := fun X hX => hX _ _ _ _ hbne (by decide) hbox
      clear hcell hre hru hvl HB HK HG HE HH HT ht hJ hgd hcp
      by_cases hj0 : 0 < j
      · rw [if_pos hj0] at hst
        have HST : Hid (l ++ joinS smc ((cs.map (clT d)).take (j + 1)) = ((((l ++ J) ++ (⟨#[59, 32]⟩ : ByteArray).data.toList) ++ txtX d t) ++ (⟨#[32, 45, 62, 32]⟩ : ByteArray).data.toList) ++ txtX d u) := by
          show _ = ((((l ++ J) ++ smc) ++ txtX d t) ++ arr) ++ _
          rw [hst]
          unfold clT
          simp only [List.append_assoc]
        have hWs := write_any w0 b _ ⟨#[59, 32]⟩ W HBW.out (by rw [List.length_append]; show _ + 2 ≤ _; omega)
        have hbj : decide ((0 : Int) < j) = true := by simp; omega
        rw [hW] at hWs
        obtain ⟨m1, hm1⟩ : ∃ m, (l ++ J) ++ (⟨#[59, 32]⟩ : ByteArray).data.toList = m := ⟨_, rfl⟩
        have hm1s : m1.length = l.length + J.length + 2 := by rw [← hm1, List.length_append, List.length_append]; rfl
        rw [hm1] at hWs HST
        clear hW hst HBW hm1
        go_wp2_with fail
        refine hWs.mono ?_
        clear hWs
        rintro e w2 ⟨rfl, BDC, hbk⟩
        rw [← HW.out] at hbk
        have HKC : Hid (BoxKept b W w2) := hbk
        clear hbk HW f0 f1 f2 f3 f4 f5 f6 f7 f8 f9
        have hbx := HBX.out w2 HKC.out
        have c0 : w2.cell? ⟨wr.heap.size, 0, none⟩ = some (.int .i64 y0) := by rw [cell_of_row w2 _ 0 _ _ _ hbx]; rfl
        have c1 : w2.cell? ⟨wr.heap.size, 1, none⟩ = some (.int .i64 y1) := by rw [cell_of_row w2 _ 1 _ _ _ hbx]; rfl
        have c2 : w2.cell? ⟨wr.heap.size, 2, none⟩ = some (.string y2) := by rw [cell_of_row w2 _ 2 _ _ _ hbx]; rfl
        have c3 : w2.cell? ⟨wr.heap.size, 3, none⟩ = some (.slice ya3 yl3 yc3) := by rw [cell_of_row w2 _ 3 _ _ _ hbx]; rfl
        have c4 : w2.cell? ⟨wr.heap.size, 4, none⟩ = some (.slice ya4 yl4 yc4) := by rw [cell_of_row w2 _ 4 _ _ _ hbx]; rfl
        have hC := HC1.out m1 w2 BDC.out (by omega)
        clear hbx BDC HC1 hbox hwW
        go_wp2_with fail
        refine hC.mono ?_
        clear hC c0 c1 c2 c3 c4
        rintro e w3 ⟨rfl, BD3, K3⟩
        have HK3 : Hid (BoxKept b W w3) := HKC.out.trans K3.out
        clear K3 HKC
        have hWs := write_any w0 b _ ⟨#[32, 45, 62, 32]⟩ w3 BD3.out (by rw [List.length_append]; show _ + 4 ≤ _; omega)
        obtain ⟨m2, hm2⟩ : ∃ m, (m1 ++ txtX d t) ++ (⟨#[32, 45, 62, 32]⟩ : ByteArray).data.toList = m := ⟨_, rfl⟩
        have hm2s : m2.length = m1.length + (txtX d t).length + 4 := by rw [← hm2, List.length_append, List.length_append]; rfl
        rw [hm2] at hWs HST
        clear hm2 BD3
        go_wp2_with fail
        refine hWs.mono ?_
        clear hWs
        rintro e w4 ⟨rfl, BD4, hbk4⟩
        have HK4 : Hid (BoxKept b W w4) := HK3.out.trans hbk4.out
        have hbx := HBX.out w4 HK4.out
        have c5 : w4.cell? ⟨wr.heap.size, 5, none⟩ = some (.int .i64 z0) := by rw [cell_of_row w4 _ 5 _ _ _ hbx]; rfl
        have c6 : w4.cell? ⟨wr.heap.size, 6, none⟩ = some (.int .i64 z1) := by rw [cell_of_row w4 _ 6 _ _ _ hbx]; rfl
        have c7 : w4.cell? ⟨wr.heap.size, 7, none⟩ = some (.string z2) := by rw [cell_of_row w4 _ 7 _ _ _ hbx]; rfl
        have c8 : w4.cell? ⟨wr.heap.size, 8, none⟩ = some (.slice za3 zl3 zc3) := by rw [cell_of_row w4 _ 8 _ _ _ hbx]; rfl
        have c9 : w4.cell? ⟨wr.heap.size, 9, none⟩ = some (.slice za4 zl4 zc4) := by rw [cell_of_row w4 _ 9 _ _ _ hbx]; rfl
        have hC := HC2.out m2 w4 BD4.out (by omega)
        clear hbk4 HK3 hbx BD4 HC2 HBX
        go_wp2_with fail
        refine hC.mono ?_
        clear hC c5 c6 c7 c8 c9
        rintro e w5 ⟨rfl, BD5, hbk5⟩
        have HB4 : Hid (Bd w0 b (l ++ joinS smc ((cs.map (clT d)).take (j + 1))) w5) := by rw [HST.out]; exact BD5
        have HK5 : Hid (BoxKept b w w5) := HKW.out.trans (HK4.out.trans hbk5.out)
        clear BD5 HST HKW HK4 hbk5
        go_wp2_with fail
        go_roundw
        case rel => exact ⟨j + 1, by omega, by go_num, HB4, HK5⟩
        case measure => simp [intOf]; omega
      · rw [if_neg hj0] at hst
        have HST : Hid (l ++ joinS smc ((cs.map (clT d)).take (j + 1)) = (((l ++ J) ++ txtX d t) ++ (⟨#[32, 45, 62, 32]⟩ : ByteArray).data.toList) ++ txtX d u) := by
          show _ = (((l ++ J) ++ txtX d t) ++ arr) ++ _
          rw [hst]
          unfold clT
          simp only [List.append_assoc]
        have hbj : decide ((0 : Int) < j) = false := by simp; omega
        obtain ⟨m1, hm1⟩ : ∃ m, l ++ J = m := ⟨_, rfl⟩
        have hm1s : m1.length ≤ l.length + J.length + 2 := by rw [← hm1, List.length_append]; omega
        rw [hm1] at HBW HST
        have hC := HC1.out m1 W HBW.out (by omega)
        rw [hW] at hC
        clear hW hst HBW hm1 HC1 hbox hwW
        go_wp2_with fail
        refine hC.mono ?_
        clear hC f0 f1 f2 f3 f4 f5 f6 f7 f8 f9
        rintro e w3 ⟨rfl, BD3, K3⟩
        rw [← HW.out] at K3
        have HK3 : Hid (BoxKept b W w3) := K3
        clear K3 HW
        have hWs := write_any w0 b _ ⟨#[32, 45, 62, 32]⟩ w3 BD3.out (by rw [List.length_append]; show _ + 4 ≤ _; omega)
        obtain ⟨m2, hm2⟩ : ∃ m, (m1 ++ txtX d t) ++ (⟨#[32, 45, 62, 32]⟩ : ByteArray).data.toList = m := ⟨_, rfl⟩
        have hm2s : m2.length = m1.length + (txtX d t).length + 4 := by rw [← hm2, List.length_append, List.length_append]; rfl
        rw [hm2] at hWs HST
        clear hm2 BD3
        go_wp2_with fail
        refine hWs.mono ?_
        clear hWs
        rintro e w4 ⟨rfl, BD4, hbk4⟩
        have HK4 : Hid (BoxKept b W w4) := HK3.out.trans hbk4.out
        have hbx := HBX.out w4 HK4.out
        have c5 : w4.cell? ⟨wr.heap.size, 5, none⟩ = some (.int .i64 z0) := by rw [cell_of_row w4 _ 5 _ _ _ hbx]; rfl
        have c6 : w4.cell? ⟨wr.heap.size, 6, none⟩ = some (.int .i64 z1) := by rw [cell_of_row w4 _ 6 _ _ _ hbx]; rfl
        have c7 : w4.cell? ⟨wr.heap.size, 7, none⟩ = some (.string z2) := by rw [cell_of_row w4 _ 7 _ _ _ hbx]; rfl
        have c8 : w4.cell? ⟨wr.heap.size, 8, none⟩ = some (.slice za3 zl3 zc3) := by rw [cell_of_row w4 _ 8 _ _ _ hbx]; rfl
        have c9 : w4.cell? ⟨wr.heap.size, 9, none⟩ = some (.slice za4 zl4 zc4) := by rw [cell_of_row w4 _ 9 _ _ _ hbx]; rfl
        have hC := HC2.out m2 w4 BD4.out (by omega)
        clear hbk4 HK3 hbx BD4 HC2 HBX
        go_wp2_with fail
        refine hC.mono ?_
        clear hC c5 c6 c7 c8 c9
        rintro e w5 ⟨rfl, BD5, hbk5⟩
        have HB4 : Hid (Bd w0 b (l ++ joinS smc ((cs.map (clT d)).take (j + 1))) w5) := by rw [HST.out]; exact BD5
        have HK5 : Hid (BoxKept b w w5) := HKW.out.trans (HK4.out.trans hbk5.out)
        clear BD5 HST HKW HK4 hbk5
        go_wp2_with fail
        go_roundw
        case rel => exact ⟨j + 1, by omega, by go_num, HB4, HK5⟩
        case measure => simp [intOf]; omega
    · obtain rfl : j = len := by omega
      have HBE : Hid (Bd w0 b (l ++ joinS smc (cs.map (clT d))) wr) := by
        have := HB.out
        rw [List.take_of_length_le (by rw [List.length_map, HL.out]; exact Nat.le_refl _)] at this
        exact this
      have hjl' : decide ((j : Int) < (j : Int)) = false := by simp
      clear HB HE HG HH HT HLM hbw
      go_wp2_with fail
      go_end0
      exact ⟨rfl, HBE, HK⟩

set_option maxRecDepth 100000 in
set_option maxHeartbeats 2000000 in
theorem writeExpr_1 (d : Nat) (H : WxC d) (w0 : World) (b : Nat) (l : List UInt8) (pat : Bool) (deep : Int) (x : Ex (d + 1)) (a3 : Option Addr) (c3 : Nat) (a4 : Option Addr) (c4 : Nat) (w : World) (h : Hand d w0 pat deep x a3 c3 a4) (htb : TabOk w0) (hB : Bd w0 b l w) (hn : l.length + 32 * cntX (d + 1) x ≤ 1000000) (hk : x.K = 1) (R : List UInt8) (hR0 : R = l ++ txtX (d + 1) x) :
    Calls Tryz.prog 16 #[.pointer (some ⟨b, 0, none⟩), .agg #[.int .i64 x.K, .int .i64 x.N, .string x.S, .slice a3 x.E.length c3, .slice a4 x.C.length c4]] w fun r w' => r = .returned (.tuple #[]) ∧ Hid (Bd w0 b R w') ∧ Hid (BoxKept b w w') := by
  rw [txtX_eq, hk, body1] at hR0
  rw [hk]
  have hfit := h.good.2.1.1
  rw [hk] at hfit
  have hf := (fit1 _ _ _ _).1 hfit
  have hsz := fit_size hfit
  have hlen := h.lens
  have hcn : cntX (d + 1) x = 1 + (x.E.map (cntX d)).sum + (x.C.map (ClF (cntX d))).sum := rfl
  obtain ⟨len, hl⟩ : ∃ l, x.E.length = l := ⟨_, rfl⟩
  obtain ⟨l4, hl4⟩ : ∃ l, x.C.length = l := ⟨_, rfl⟩
  obtain ⟨N, hN⟩ : ∃ N, x.N = N := ⟨_, rfl⟩
  obtain ⟨S, hS⟩ : ∃ S, x.S = S := ⟨_, rfl⟩
  rw [hN, hS, hl, hl4] at hf
  rw [hl, hl4] at hlen
  rw [hS] at hsz
  try rw [hS] at hR0
  try rw [hN] at hR0
  rw [hN, hS, hl, hl4]
  obtain ⟨W, hW⟩ : ∃ W, W = w.alloc (.cells #[.int .i64 1, .int .i64 N, .string S, .slice a3 len c3, .slice a4 l4 c4] 39) := ⟨_, rfl⟩
  have hA : Below w.heap.size w W := by rw [hW]; exact (Below.refl _ _).alloc (Nat.le_refl _) _
  have hB1 : W.heap[w.heap.size]? = some (.cells #[.int .i64 1, .int .i64 N, .string S, .slice a3 len c3, .slice a4 l4 c4] 39 (0, 0)) := by rw [hW]; exact heap_alloc_new w _
  have HKA : Hid (BoxKept b w W) := BoxKept.of_below hA
  have hBW := hB.later hA
  have hbne : w.heap.size ≠ b := fun e => by have := hB.blt; omega
  have HBX : Hid (∀ X : World, BoxKept b W X → X.heap[w.heap.size]? = some (.cells #[.int .i64 1, .int .i64 N, .string S, .slice a3 len c3, .slice a4 l4 c4] 39 (0, 0))) := fun X hX => hX _ _ _ _ hbne (by decide) hB1
  have HW : Hid (W = _) := hW
  have hI := itoa_any N W (by omega) (by omega) (htb.later hBW.2)
  have hDs := intText_size N
  obtain ⟨D, hD⟩ : ∃ D, intText N = D := ⟨_, rfl⟩
  rw [hD] at hI hDs hR0
  have HRR : Hid (R = _) := hR0
  rw [hW] at hI
  have HBW : Hid (Bd w0 b l W) := hBW
  clear hD hW hBW
  clear hl hl4 hN hS H h hfit hA hB1 hB htb hR0
  try clear hf
  clear hcn
  go_enter Tryz.func16, Tryz.ntmps16
  go_wp2_with fail
  refine hI.mono ?_
  clear hI
  rintro e w1 ⟨rfl, hB1⟩
  rw [← HW.out] at hB1
  have hWs := write_any w0 b l D w1 (HBW.out.later hB1) (by omega)
  have HK1 : Hid (BoxKept b w w1) := HKA.out.trans (BoxKept.of_below hB1)
  clear HBW hB1 HKA HBX HW
  go_wp2_with fail
  refine hWs.mono ?_
  clear hWs
  rintro e w2 ⟨rfl, HFB, hk2⟩
  have HFK : Hid (BoxKept b w w2) := HK1.out.trans hk2.out
  clear hk2 HK1
  go_wp2_with fail
  go_end0
  exact ⟨rfl, by rw [HRR.out]; exact HFB, HFK⟩

set_option maxRecDepth 100000 in
set_option maxHeartbeats 2000000 in
theorem writeExpr_2 (d : Nat) (H : WxC d) (w0 : World) (b : Nat) (l : List UInt8) (pat : Bool) (deep : Int) (x : Ex (d + 1)) (a3 : Option Addr) (c3 : Nat) (a4 : Option Addr) (c4 : Nat) (w : World) (h : Hand d w0 pat deep x a3 c3 a4) (htb : TabOk w0) (hB : Bd w0 b l w) (hn : l.length + 32 * cntX (d + 1) x ≤ 1000000) (hk : x.K = 2) (R : List UInt8) (hR0 : R = l ++ txtX (d + 1) x) :
    Calls Tryz.prog 16 #[.pointer (some ⟨b, 0, none⟩), .agg #[.int .i64 x.K, .int .i64 x.N, .string x.S, .slice a3 x.E.length c3, .slice a4 x.C.length c4]] w fun r w' => r = .returned (.tuple #[]) ∧ Hid (Bd w0 b R w') ∧ Hid (BoxKept b w w') := by
  rw [txtX_eq, hk, body2] at hR0
  rw [hk]
  have hfit := h.good.2.1.1
  rw [hk] at hfit
  have hf := (fit2 _ _ _ _).1 hfit
  have hsz := fit_size hfit
  have hlen := h.lens
  have hcn : cntX (d + 1) x = 1 + (x.E.map (cntX d)).sum + (x.C.map (ClF (cntX d))).sum := rfl
  obtain ⟨len, hl⟩ : ∃ l, x.E.length = l := ⟨_, rfl⟩
  obtain ⟨l4, hl4⟩ : ∃ l, x.C.length = l := ⟨_, rfl⟩
  obtain ⟨N, hN⟩ : ∃ N, x.N = N := ⟨_, rfl⟩
  obtain ⟨S, hS⟩ : ∃ S, x.S = S := ⟨_, rfl⟩
  rw [hN, hS, hl, hl4] at hf
  rw [hl, hl4] at hlen
  rw [hS] at hsz
  try rw [hS] at hR0
  try rw [hN] at hR0
  rw [hN, hS, hl, hl4]
  obtain ⟨W, hW⟩ : ∃ W, W = w.alloc (.cells #[.int .i64 2, .int .i64 N, .string S, .slice a3 len c3, .slice a4 l4 c4] 39) := ⟨_, rfl⟩
  have hA : Below w.heap.size w W := by rw [hW]; exact (Below.refl _ _).alloc (Nat.le_refl _) _
  have hB1 : W.heap[w.heap.size]? = some (.cells #[.int .i64 2, .int .i64 N, .string S, .slice a3 len c3, .slice a4 l4 c4] 39 (0, 0)) := by rw [hW]; exact heap_alloc_new w _
  have HKA : Hid (BoxKept b w W) := BoxKept.of_below hA
  have hBW := hB.later hA
  have hbne : w.heap.size ≠ b := fun e => by have := hB.blt; omega
  have HBX : Hid (∀ X : World, BoxKept b W X → X.heap[w.heap.size]? = some (.cells #[.int .i64 2, .int .i64 N, .string S, .slice a3 len c3, .slice a4 l4 c4] 39 (0, 0))) := fun X hX => hX _ _ _ _ hbne (by decide) hB1
  have HW : Hid (W = _) := hW
  have hWs := write_any w0 b l S W hBW (by omega)
  have HRR : Hid (R = _) := hR0
  rw [hW] at hWs
  clear hW hBW
  clear hl hl4 hN hS H h hfit hA hB1 hB htb hR0
  try clear hf
  clear hcn
  go_enter Tryz.func16, Tryz.ntmps16
  go_wp2_with fail
  refine hWs.mono ?_
  clear hWs
  rintro e w2 ⟨rfl, HFB, hk2⟩
  rw [← HW.out] at hk2
  have HFK : Hid (BoxKept b w w2) := HKA.out.trans hk2.out
  clear hk2 HKA HBX HW
  go_wp2_with fail
  go_end0
  exact ⟨rfl, by rw [HRR.out]; exact HFB, HFK⟩

set_option maxRecDepth 100000 in
set_option maxHeartbeats 2000000 in
theorem writeExpr_3 (d : Nat) (H : WxC d) (w0 : World) (b : Nat) (l : List UInt8) (pat : Bool) (deep : Int) (x : Ex (d + 1)) (a3 : Option Addr) (c3 : Nat) (a4 : Option Addr) (c4 : Nat) (w : World) (h : Hand d w0 pat deep x a3 c3 a4) (htb : TabOk w0) (hB : Bd w0 b l w) (hn : l.length + 32 * cntX (d + 1) x ≤ 1000000) (hk : x.K = 3) (R : List UInt8) (hR0 : R = l ++ txtX (d + 1) x) :
    Calls Tryz.prog 16 #[.pointer (some ⟨b, 0, none⟩), .agg #[.int .i64 x.K, .int .i64 x.N, .string x.S, .slice a3 x.E.length c3, .slice a4 x.C.length c4]] w fun r w' => r = .returned (.tuple #[]) ∧ Hid (Bd w0 b R w') ∧ Hid (BoxKept b w w') := by
  rw [txtX_eq, hk, body3] at hR0
  rw [hk]
  have hfit := h.good.2.1.1
  rw [hk] at hfit
  have hf := (fit3 _ _ _ _).1 hfit
  have hsz := fit_size hfit
  have hlen := h.lens
  have hcn : cntX (d + 1) x = 1 + (x.E.map (cntX d)).sum + (x.C.map (ClF (cntX d))).sum := rfl
  obtain ⟨len, hl⟩ : ∃ l, x.E.length = l := ⟨_, rfl⟩
  obtain ⟨l4, hl4⟩ : ∃ l, x.C.length = l := ⟨_, rfl⟩
  obtain ⟨N, hN⟩ : ∃ N, x.N = N := ⟨_, rfl⟩
  obtain ⟨S, hS⟩ : ∃ S, x.S = S := ⟨_, rfl⟩
  rw [hN, hS, hl, hl4] at hf
  rw [hl, hl4] at hlen
  rw [hS] at hsz
  try rw [hS] at hR0
  try rw [hN] at hR0
  rw [hN, hS, hl, hl4]
  obtain ⟨W, hW⟩ : ∃ W, W = w.alloc (.cells #[.int .i64 3, .int .i64 N, .string S, .slice a3 len c3, .slice a4 l4 c4] 39) := ⟨_, rfl⟩
  have hA : Below w.heap.size w W := by rw [hW]; exact (Below.refl _ _).alloc (Nat.le_refl _) _
  have hB1 : W.heap[w.heap.size]? = some (.cells #[.int .i64 3, .int .i64 N, .string S, .slice a3 len c3, .slice a4 l4 c4] 39 (0, 0)) := by rw [hW]; exact heap_alloc_new w _
  have HKA : Hid (BoxKept b w W) := BoxKept.of_below hA
  have hBW := hB.later hA
  have hbne : w.heap.size ≠ b := fun e => by have := hB.blt; omega
  have HBX : Hid (∀ X : World, BoxKept b W X → X.heap[w.heap.size]? = some (.cells #[.int .i64 3, .int .i64 N, .string S, .slice a3 len c3, .slice a4 l4 c4] 39 (0, 0))) := fun X hX => hX _ _ _ _ hbne (by decide) hB1
  have HW : Hid (W = _) := hW
  have hWs := write_any w0 b l S W hBW (by omega)
  have HRR : Hid (R = _) := hR0
  rw [hW] at hWs
  clear hW hBW
  clear hl hl4 hN hS H h hfit hA hB1 hB htb hR0
  try clear hf
  clear hcn
  go_enter Tryz.func16, Tryz.ntmps16
  go_wp2_with fail
  refine hWs.mono ?_
  clear hWs
  rintro e w2 ⟨rfl, HFB, hk2⟩
  rw [← HW.out] at hk2
  have HFK : Hid (BoxKept b w w2) := HKA.out.trans hk2.out
  clear hk2 HKA HBX HW
  go_wp2_with fail
  go_end0
  exact ⟨rfl, by rw [HRR.out]; exact HFB, HFK⟩

set_option maxRecDepth 100000 in
set_option maxHeartbeats 2000000 in
theorem writeExpr_4 (d : Nat) (H : WxC d) (w0 : World) (b : Nat) (l : List UInt8) (pat : Bool) (deep : Int) (x : Ex (d + 1)) (a3 : Option Addr) (c3 : Nat) (a4 : Option Addr) (c4 : Nat) (w : World) (h : Hand d w0 pat deep x a3 c3 a4) (htb : TabOk w0) (hB : Bd w0 b l w) (hn : l.length + 32 * cntX (d + 1) x ≤ 1000000) (hk : x.K = 4) (R : List UInt8) (hR0 : R = l ++ txtX (d + 1) x) :
    Calls Tryz.prog 16 #[.pointer (some ⟨b, 0, none⟩), .agg #[.int .i64 x.K, .int .i64 x.N, .string x.S, .slice a3 x.E.length c3, .slice a4 x.C.length c4]] w fun r w' => r = .returned (.tuple #[]) ∧ Hid (Bd w0 b R w') ∧ Hid (BoxKept b w w') := by
  rw [txtX_eq, hk, body4] at hR0
  rw [hk]
  have hfit := h.good.2.1.1
  rw [hk] at hfit
  have hf := (fit4 _ _ _ _).1 hfit
  have hsz := fit_size hfit
  have hlen := h.lens
  have hcn : cntX (d + 1) x = 1 + (x.E.map (cntX d)).sum + (x.C.map (ClF (cntX d))).sum := rfl
  obtain ⟨len, hl⟩ : ∃ l, x.E.length = l := ⟨_, rfl⟩
  obtain ⟨l4, hl4⟩ : ∃ l, x.C.length = l := ⟨_, rfl⟩
  obtain ⟨N, hN⟩ : ∃ N, x.N = N := ⟨_, rfl⟩
  obtain ⟨S, hS⟩ : ∃ S, x.S = S := ⟨_, rfl⟩
  rw [hN, hS, hl, hl4] at hf
  rw [hl, hl4] at hlen
  rw [hS] at hsz
  try rw [hS] at hR0
  try rw [hN] at hR0
  rw [hN, hS, hl, hl4]
  obtain ⟨W, hW⟩ : ∃ W, W = w.alloc (.cells #[.int .i64 4, .int .i64 N, .string S, .slice a3 len c3, .slice a4 l4 c4] 39) := ⟨_, rfl⟩
  have hA : Below w.heap.size w W := by rw [hW]; exact (Below.refl _ _).alloc (Nat.le_refl _) _
  have hB1 : W.heap[w.heap.size]? = some (.cells #[.int .i64 4, .int .i64 N, .string S, .slice a3 len c3, .slice a4 l4 c4] 39 (0, 0)) := by rw [hW]; exact heap_alloc_new w _
  have HKA : Hid (BoxKept b w W) := BoxKept.of_below hA
  have hBW := hB.later hA
  have hbne : w.heap.size ≠ b := fun e => by have := hB.blt; omega
  have HBX : Hid (∀ X : World, BoxKept b W X → X.heap[w.heap.size]? = some (.cells #[.int .i64 4, .int .i64 N, .string S, .slice a3 len c3, .slice a4 l4 c4] 39 (0, 0))) := fun X hX => hX _ _ _ _ hbne (by decide) hB1
  have HW : Hid (W = _) := hW
  have hC := writeRow_of d H w0 b l ⟨#[123]⟩ ⟨#[125]⟩ a3 c3 x.E pat (deep - 1) W h.el h.good.2.2.1 htb hBW (by omega) h.sumE (by show _ + 1 + _ + 1 + 2 ≤ _; omega)
  rw [hl, hW] at hC
  obtain ⟨Q, hR⟩ : ∃ R, l ++ (((⟨#[123]⟩ : ByteArray).data.toList ++ joinS cmm (x.E.map (txtX d))) ++ (⟨#[125]⟩ : ByteArray).data.toList) = R := ⟨_, rfl⟩
  have HR : Hid (l ++ (([123] ++ joinS cmm (x.E.map (txtX d))) ++ [125]) = Q) := hR
  rw [hR] at hC
  have HRR : Hid (R = Q) := hR0.trans HR.out
  clear hR hW hBW
  clear hl hl4 hN hS H h hfit hA hB1 hB htb hR0
  try clear hf
  clear hcn
  go_enter Tryz.func16, Tryz.ntmps16
  go_wp2_with fail
  refine hC.mono ?_
  clear hC
  rintro e w2 ⟨rfl, HFB, hk2⟩
  rw [← HW.out] at hk2
  have HFK : Hid (BoxKept b w w2) := HKA.out.trans hk2.out
  clear hk2 HKA HBX HW
  go_wp2_with fail
  go_end0
  exact ⟨rfl, by rw [HRR.out]; exact HFB, HFK⟩

set_option maxRecDepth 100000 in
set_option maxHeartbeats 2000000 in
theorem writeExpr_5 (d : Nat) (H : WxC d) (w0 : World) (b : Nat) (l : List UInt8) (pat : Bool) (deep : Int) (x : Ex (d + 1)) (a3 : Option Addr) (c3 : Nat) (a4 : Option Addr) (c4 : Nat) (w : World) (h : Hand d w0 pat deep x a3 c3 a4) (htb : TabOk w0) (hB : Bd w0 b l w) (hn : l.length + 32 * cntX (d + 1) x ≤ 1000000) (hk : x.K = 5) (R : List UInt8) (hR0 : R = l ++ txtX (d + 1) x) :
    Calls Tryz.prog 16 #[.pointer (some ⟨b, 0, none⟩), .agg #[.int .i64 x.K, .int .i64 x.N, .string x.S, .slice a3 x.E.length c3, .slice a4 x.C.length c4]] w fun r w' => r = .returned (.tuple #[]) ∧ Hid (Bd w0 b R w') ∧ Hid (BoxKept b w w') := by
  rw [txtX_eq, hk, body5] at hR0
  rw [hk]
  have hfit := h.good.2.1.1
  rw [hk] at hfit
  have hf := (fit5 _ _ _ _).1 hfit
  have hsz := fit_size hfit
  have hlen := h.lens
  have hcn : cntX (d + 1) x = 1 + (x.E.map (cntX d)).sum + (x.C.map (ClF (cntX d))).sum := rfl
  obtain ⟨len, hl⟩ : ∃ l, x.E.length = l := ⟨_, rfl⟩
  obtain ⟨l4, hl4⟩ : ∃ l, x.C.length = l := ⟨_, rfl⟩
  obtain ⟨N, hN⟩ : ∃ N, x.N = N := ⟨_, rfl⟩
  obtain ⟨S, hS⟩ : ∃ S, x.S = S := ⟨_, rfl⟩
  rw [hN, hS, hl, hl4] at hf
  rw [hl, hl4] at hlen
  rw [hS] at hsz
  try rw [hS] at hR0
  try rw [hN] at hR0
  rw [hN, hS, hl, hl4]
  obtain ⟨W, hW⟩ : ∃ W, W = w.alloc (.cells #[.int .i64 5, .int .i64 N, .string S, .slice a3 len c3, .slice a4 l4 c4] 39) := ⟨_, rfl⟩
  have hA : Below w.heap.size w W := by rw [hW]; exact (Below.refl _ _).alloc (Nat.le_refl _) _
  have hB1 : W.heap[w.heap.size]? = some (.cells #[.int .i64 5, .int .i64 N, .string S, .slice a3 len c3, .slice a4 l4 c4] 39 (0, 0)) := by rw [hW]; exact heap_alloc_new w _
  have HKA : Hid (BoxKept b w W) := BoxKept.of_below hA
  have hBW := hB.later hA
  have hbne : w.heap.size ≠ b := fun e => by have := hB.blt; omega
  have HBX : Hid (∀ X : World, BoxKept b W X → X.heap[w.heap.size]? = some (.cells #[.int .i64 5, .int .i64 N, .string S, .slice a3 len c3, .slice a4 l4 c4] 39 (0, 0))) := fun X hX => hX _ _ _ _ hbne (by decide) hB1
  have HW : Hid (W = _) := hW
  have hC := writeRow_of d H w0 b l ⟨#[91]⟩ ⟨#[93]⟩ a3 c3 x.E pat (deep - 1) W h.el h.good.2.2.1 htb hBW (by omega) h.sumE (by show _ + 1 + _ + 1 + 2 ≤ _; omega)
  rw [hl, hW] at hC
  obtain ⟨Q, hR⟩ : ∃ R, l ++ (((⟨#[91]⟩ : ByteArray).data.toList ++ joinS cmm (x.E.map (txtX d))) ++ (⟨#[93]⟩ : ByteArray).data.toList) = R := ⟨_, rfl⟩
  have HR : Hid (l ++ (([91] ++ joinS cmm (x.E.map (txtX d))) ++ [93]) = Q) := hR
  rw [hR] at hC
  have HRR : Hid (R = Q) := hR0.trans HR.out
  clear hR hW hBW
  clear hl hl4 hN hS H h hfit hA hB1 hB htb hR0
  try clear hf
  clear hcn
  go_enter Tryz.func16, Tryz.ntmps16
  go_wp2_with fail
  refine hC.mono ?_
  clear hC
  rintro e w2 ⟨rfl, HFB, hk2⟩
  rw [← HW.out] at hk2
  have HFK : Hid (BoxKept b w w2) := HKA.out.trans hk2.out
  clear hk2 HKA HBX HW
  go_wp2_with fail
  go_end0
  exact ⟨rfl, by rw [HRR.out]; exact HFB, HFK⟩

set_option maxRecDepth 100000 in
set_option maxHeartbeats 2000000 in
theorem writeExpr_8 (d : Nat) (H : WxC d) (w0 : World) (b : Nat) (l : List UInt8) (pat : Bool) (deep : Int) (x : Ex (d + 1)) (a3 : Option Addr) (c3 : Nat) (a4 : Option Addr) (c4 : Nat) (w : World) (h : Hand d w0 pat deep x a3 c3 a4) (htb : TabOk w0) (hB : Bd w0 b l w) (hn : l.length + 32 * cntX (d + 1) x ≤ 1000000) (hk : x.K = 8) (R : List UInt8) (hR0 : R = l ++ txtX (d + 1) x) :
    Calls Tryz.prog 16 #[.pointer (some ⟨b, 0, none⟩), .agg #[.int .i64 x.K, .int .i64 x.N, .string x.S, .slice a3 x.E.length c3, .slice a4 x.C.length c4]] w fun r w' => r = .returned (.tuple #[]) ∧ Hid (Bd w0 b R w') ∧ Hid (BoxKept b w w') := by
  rw [txtX_eq, hk, body8] at hR0
  rw [hk]
  have hfit := h.good.2.1.1
  rw [hk] at hfit
  have hf := (fit8 _ _ _ _).1 hfit
  have hsz := fit_size hfit
  have hlen := h.lens
  have hcn : cntX (d + 1) x = 1 + (x.E.map (cntX d)).sum + (x.C.map (ClF (cntX d))).sum := rfl
  obtain ⟨len, hl⟩ : ∃ l, x.E.length = l := ⟨_, rfl⟩
  obtain ⟨l4, hl4⟩ : ∃ l, x.C.length = l := ⟨_, rfl⟩
  obtain ⟨N, hN⟩ : ∃ N, x.N = N := ⟨_, rfl⟩
  obtain ⟨S, hS⟩ : ∃ S, x.S = S := ⟨_, rfl⟩
  rw [hN, hS, hl, hl4] at hf
  rw [hl, hl4] at hlen
  rw [hS] at hsz
  try rw [hS] at hR0
  try rw [hN] at hR0
  rw [hN, hS, hl, hl4]
  obtain ⟨W, hW⟩ : ∃ W, W = w.alloc (.cells #[.int .i64 8, .int .i64 N, .string S, .slice a3 len c3, .slice a4 l4 c4] 39) := ⟨_, rfl⟩
  have hA : Below w.heap.size w W := by rw [hW]; exact (Below.refl _ _).alloc (Nat.le_refl _) _
  have hB1 : W.heap[w.heap.size]? = some (.cells #[.int .i64 8, .int .i64 N, .string S, .slice a3 len c3, .slice a4 l4 c4] 39 (0, 0)) := by rw [hW]; exact heap_alloc_new w _
  have HKA : Hid (BoxKept b w W) := BoxKept.of_below hA
  have hBW := hB.later hA
  have hbne : w.heap.size ≠ b := fun e => by have := hB.blt; omega
  have HBX : Hid (∀ X : World, BoxKept b W X → X.heap[w.heap.size]? = some (.cells #[.int .i64 8, .int .i64 N, .string S, .slice a3 len c3, .slice a4 l4 c4] 39 (0, 0))) := fun X hX => hX _ _ _ _ hbne (by decide) hB1
  have HW : Hid (W = _) := hW
  have hC := writeRow_of d H w0 b l (S ++ ⟨#[40]⟩) ⟨#[41]⟩ a3 c3 x.E pat (deep - 1) W h.el h.good.2.2.1 htb hBW (by omega) h.sumE (by rw [ByteArray.size_append]; show _ + (_ + 1) + _ + 1 + 2 ≤ _; omega)
  rw [hl, hW] at hC
  obtain ⟨Q, hR⟩ : ∃ R, l ++ (((S ++ ⟨#[40]⟩ : ByteArray).data.toList ++ joinS cmm (x.E.map (txtX d))) ++ (⟨#[41]⟩ : ByteArray).data.toList) = R := ⟨_, rfl⟩
  have HR : Hid (l ++ (((S.data.toList ++ [40]) ++ joinS cmm (x.E.map (txtX d))) ++ [41]) = Q) := by rw [← hR, ba_append]; rfl
  rw [hR] at hC
  have HRR : Hid (R = Q) := hR0.trans HR.out
  clear hR hW hBW
  clear hl hl4 hN hS H h hfit hA hB1 hB htb hR0
  try clear hf
  clear hcn
  go_enter Tryz.func16, Tryz.ntmps16
  go_wp2_with fail
  refine hC.mono ?_
  clear hC
  rintro e w2 ⟨rfl, HFB, hk2⟩
  rw [← HW.out] at hk2
  have HFK : Hid (BoxKept b w w2) := HKA.out.trans hk2.out
  clear hk2 HKA HBX HW
  go_wp2_with fail
  go_end0
  exact ⟨rfl, by rw [HRR.out]; exact HFB, HFK⟩

set_option maxRecDepth 100000 in
set_option maxHeartbeats 2000000 in
theorem writeExpr_6 (d : Nat) (H : WxC d) (w0 : World) (b : Nat) (l : List UInt8) (pat : Bool) (deep : Int) (x : Ex (d + 1)) (a3 : Option Addr) (c3 : Nat) (a4 : Option Addr) (c4 : Nat) (w : World) (h : Hand d w0 pat deep x a3 c3 a4) (htb : TabOk w0) (hB : Bd w0 b l w) (hn : l.length + 32 * cntX (d + 1) x ≤ 1000000) (hk : x.K = 6) (R : List UInt8) (hR0 : R = l ++ txtX (d + 1) x) :
    Calls Tryz.prog 16 #[.pointer (some ⟨b, 0, none⟩), .agg #[.int .i64 x.K, .int .i64 x.N, .string x.S, .slice a3 x.E.length c3, .slice a4 x.C.length c4]] w fun r w' => r = .returned (.tuple #[]) ∧ Hid (Bd w0 b R w') ∧ Hid (BoxKept b w w') := by
  rw [txtX_eq, hk, body6] at hR0
  rw [hk]
  have hfit := h.good.2.1.1
  rw [hk] at hfit
  have hf := (fit6 _ _ _ _).1 hfit
  have hsz := fit_size hfit
  have hlen := h.lens
  have hcn : cntX (d + 1) x = 1 + (x.E.map (cntX d)).sum + (x.C.map (ClF (cntX d))).sum := rfl
  obtain ⟨len, hl⟩ : ∃ l, x.E.length = l := ⟨_, rfl⟩
  obtain ⟨l4, hl4⟩ : ∃ l, x.C.length = l := ⟨_, rfl⟩
  obtain ⟨N, hN⟩ : ∃ N, x.N = N := ⟨_, rfl⟩
  obtain ⟨S, hS⟩ : ∃ S, x.S = S := ⟨_, rfl⟩
  rw [hN, hS, hl, hl4] at hf
  rw [hl, hl4] at hlen
  rw [hS] at hsz
  try rw [hS] at hR0
  try rw [hN] at hR0
  rw [hN, hS, hl, hl4]
  obtain ⟨W, hW⟩ : ∃ W, W = w.alloc (.cells #[.int .i64 6, .int .i64 N, .string S, .slice a3 len c3, .slice a4 l4 c4] 39) := ⟨_, rfl⟩
  have hA : Below w.heap.size w W := by rw [hW]; exact (Below.refl _ _).alloc (Nat.le_refl _) _
  have hB1 : W.heap[w.heap.size]? = some (.cells #[.int .i64 6, .int .i64 N, .string S, .slice a3 len c3, .slice a4 l4 c4] 39 (0, 0)) := by rw [hW]; exact heap_alloc_new w _
  have HKA : Hid (BoxKept b w W) := BoxKept.of_below hA
  have hBW := hB.later hA
  have hbne : w.heap.size ≠ b := fun e => by have := hB.blt; omega
  have HBX : Hid (∀ X : World, BoxKept b W X → X.heap[w.heap.size]? = some (.cells #[.int .i64 6, .int .i64 N, .string S, .slice a3 len c3, .slice a4 l4 c4] 39 (0, 0))) := fun X hX => hX _ _ _ _ hbne (by decide) hB1
  have HW : Hid (W = _) := hW
  have hse : ∀ n, ((x.E.take n).map (cntX d)).sum + ((x.E.drop n).map (cntX d)).sum = (x.E.map (cntX d)).sum := fun n => by
    conv => rhs; rw [← List.take_append_drop n x.E]
    rw [List.map_append, List.sum_append]
  have hgt : ∀ n, ∀ y ∈ x.E.take n, GoodX d pat (deep - 1) y := fun n y hy => h.good.2.2.1 y (List.mem_of_mem_take hy)
  have hgd : ∀ n, ∀ y ∈ x.E.drop n, GoodX d pat (deep - 1) y := fun n y hy => h.good.2.2.1 y (List.mem_of_mem_drop hy)
  have hjl : ∀ n, (joinS cmm ((x.E.take n).map (txtX d))).length ≤ 32 * ((x.E.take n).map (cntX d)).sum := fun n => by
    have h1 := joinS_len cmm ((x.E.take n).map (txtX d))
    have h2 := sumLen_le d pat (deep - 1) _ (hgt n)
    have h3 : (((x.E.take n).map (txtX d)).map fun x => cmm.length + x.length).sum = sumLen ((x.E.take n).map (txtX d)) := rfl
    omega
  obtain ⟨t, ht⟩ : ∃ t, x.E[0]? = some t := ⟨_, List.getElem?_eq_getElem (by omega)⟩
  obtain ⟨bb, o, vs, rfl, _⟩ := h.el 0 t ht
  clear ht
  have hs1 := hse (len - 1)
  have hj1 := hjl (len - 1)
  have hC := writeRow_of d H w0 b l ⟨#[91]⟩ ⟨#[32, 124, 32]⟩ (some ⟨bb, o, none⟩) c3 (x.E.take (len - 1)) pat (deep - 1) W (h.el.take _) (hgt _) htb hBW (by rw [List.length_take]; omega) (by have := h.sumE; omega) (by show _ + 1 + _ + 3 + 2 ≤ _; omega)
  rw [List.length_take, hl, show min (len - 1) len = len - 1 by omega, hW] at hC
  obtain ⟨R1, hR1⟩ : ∃ R, l ++ (((⟨#[91]⟩ : ByteArray).data.toList ++ joinS cmm ((x.E.take (len - 1)).map (txtX d))) ++ (⟨#[32, 124, 32]⟩ : ByteArray).data.toList) = R := ⟨_, rfl⟩
  have hR1s : R1.length = l.length + (1 + (joinS cmm ((x.E.take (len - 1)).map (txtX d))).length + 3) := by rw [← hR1, List.length_append, List.length_append, List.length_append]; rfl
  rw [hR1] at hC
  have HC2 : Hid (∀ X, Bd w0 b R1 X → Calls Tryz.prog 28 #[.pointer (some ⟨b, 0, none⟩), .string ⟨#[]⟩, .slice (some ⟨bb, o + (len - 1) * 5, none⟩) 1 (c3 - (len - 1)), .string ⟨#[93]⟩] X fun r w' => r = .returned (.tuple #[]) ∧ Hid (Bd w0 b (R1 ++ (((⟨#[]⟩ : ByteArray).data.toList ++ joinS cmm ((x.E.drop (len - 1)).map (txtX d))) ++ (⟨#[93]⟩ : ByteArray).data.toList)) w') ∧ Hid (BoxKept b X w')) := fun X hX => by
    have h7 := writeRow_of d H w0 b R1 ⟨#[]⟩ ⟨#[93]⟩ (some ⟨bb, o + (len - 1) * 5, none⟩) (c3 - (len - 1)) (x.E.drop (len - 1)) pat (deep - 1) X (h.el.drop _) (hgd _) htb hX (by rw [List.length_drop]; omega) (by have := h.sumE; omega) (by show _ + 0 + _ + 1 + 2 ≤ _; omega)
    rw [List.length_drop, hl, show len - (len - 1) = 1 by omega] at h7
    exact h7
  have HR : Hid (l ++ ((([91] ++ joinS cmm ((x.E.map (txtX d)).take ((x.E.map (txtX d)).length - 1))) ++ [32, 124, 32]) ++ (joinS cmm ((x.E.map (txtX d)).drop ((x.E.map (txtX d)).length - 1)) ++ [93])) = R1 ++ (((⟨#[]⟩ : ByteArray).data.toList ++ joinS cmm ((x.E.drop (len - 1)).map (txtX d))) ++ (⟨#[93]⟩ : ByteArray).data.toList)) := by
    show _ = R1 ++ (([] ++ _) ++ [93])
    rw [← hR1, List.length_map, hl, ← List.map_take, ← List.map_drop]
    show _ = (l ++ (([91] ++ _) ++ [32, 124, 32])) ++ _
    simp only [List.append_assoc, List.nil_append]
  have hR9 := hR0.trans HR.out
  obtain ⟨R2, hR2⟩ : ∃ R, R1 ++ (((⟨#[]⟩ : ByteArray).data.toList ++ joinS cmm ((x.E.drop (len - 1)).map (txtX d))) ++ (⟨#[93]⟩ : ByteArray).data.toList) = R := ⟨_, rfl⟩
  rw [hR2] at HC2 hR9
  have HRR : Hid (R = _) := hR9
  have hcap : len ≤ c3 := by have := h.cap; omega
  obtain ⟨n1, hn1⟩ : ∃ n, len = n + 1 := ⟨len - 1, by omega⟩
  subst hn1
  simp only [Nat.add_sub_cancel] at hC HC2
  clear hse hgt hgd hjl hR1 hR2 hW hBW HR hs1 hj1 hR9
  clear hl hl4 hN hS H h hfit hA hB1 hB htb hR0
  try clear hf
  clear hcn
  go_enter Tryz.func16, Tryz.ntmps16
  go_wp2_with fail
  refine hC.mono ?_
  clear hC
  rintro e w1 ⟨rfl, HB1, hk1⟩
  rw [← HW.out] at hk1
  have hbx := HBX.out w1 hk1.out
  have b3 : w1.cell? ⟨w.heap.size, 3, none⟩ = some (.slice (some ⟨bb, o, none⟩) (n1 + 1) c3) := by rw [cell_of_row w1 _ 3 _ _ _ hbx]; rfl
  have HK1 : Hid (BoxKept b w w1) := HKA.out.trans hk1.out
  have hC := HC2.out w1 HB1.out
  clear hk1 hbx HKA HBX HW HB1 HC2
  go_wp2_with fail
  refine hC.mono ?_
  clear hC b3
  rintro e w2 ⟨rfl, HFB, hk2⟩
  have HFK : Hid (BoxKept b w w2) := HK1.out.trans hk2.out
  clear hk2 HK1
  go_wp2_with fail
  go_end0
  exact ⟨rfl, by rw [HRR.out]; exact HFB, HFK⟩

set_option maxRecDepth 100000 in
set_option maxHeartbeats 2000000 in
theorem writeExpr_7 (d : Nat) (H : WxC d) (w0 : World) (b : Nat) (l : List UInt8) (pat : Bool) (deep : Int) (x : Ex (d + 1)) (a3 : Option Addr) (c3 : Nat) (a4 : Option Addr) (c4 : Nat) (w : World) (h : Hand d w0 pat deep x a3 c3 a4) (htb : TabOk w0) (hB : Bd w0 b l w) (hn : l.length + 32 * cntX (d + 1) x ≤ 1000000) (hk : x.K = 7) (R : List UInt8) (hR0 : R = l ++ txtX (d + 1) x) :
    Calls Tryz.prog 16 #[.pointer (some ⟨b, 0, none⟩), .agg #[.int .i64 x.K, .int .i64 x.N, .string x.S, .slice a3 x.E.length c3, .slice a4 x.C.length c4]] w fun r w' => r = .returned (.tuple #[]) ∧ Hid (Bd w0 b R w') ∧ Hid (BoxKept b w w') := by
  rw [txtX_eq, hk, body7] at hR0
  rw [hk]
  have hfit := h.good.2.1.1
  rw [hk] at hfit
  have hf := (fit7 _ _ _ _).1 hfit
  have hsz := fit_size hfit
  have hlen := h.lens
  have hcn : cntX (d + 1) x = 1 + (x.E.map (cntX d)).sum + (x.C.map (ClF (cntX d))).sum := rfl
  obtain ⟨len, hl⟩ : ∃ l, x.E.length = l := ⟨_, rfl⟩
  obtain ⟨l4, hl4⟩ : ∃ l, x.C.length = l := ⟨_, rfl⟩
  obtain ⟨N, hN⟩ : ∃ N, x.N = N := ⟨_, rfl⟩
  obtain ⟨S, hS⟩ : ∃ S, x.S = S := ⟨_, rfl⟩
  rw [hN, hS, hl, hl4] at hf
  rw [hl, hl4] at hlen
  rw [hS] at hsz
  try rw [hS] at hR0
  try rw [hN] at hR0
  rw [hN, hS, hl, hl4]
  obtain ⟨W, hW⟩ : ∃ W, W = w.alloc (.cells #[.int .i64 7, .int .i64 N, .string S, .slice a3 len c3, .slice a4 l4 c4] 39) := ⟨_, rfl⟩
  have hA : Below w.heap.size w W := by rw [hW]; exact (Below.refl _ _).alloc (Nat.le_refl _) _
  have hB1 : W.heap[w.heap.size]? = some (.cells #[.int .i64 7, .int .i64 N, .string S, .slice a3 len c3, .slice a4 l4 c4] 39 (0, 0)) := by rw [hW]; exact heap_alloc_new w _
  have HKA : Hid (BoxKept b w W) := BoxKept.of_below hA
  have hBW := hB.later hA
  have hbne : w.heap.size ≠ b := fun e => by have := hB.blt; omega
  have HBX : Hid (∀ X : World, BoxKept b W X → X.heap[w.heap.size]? = some (.cells #[.int .i64 7, .int .i64 N, .string S, .slice a3 len c3, .slice a4 l4 c4] 39 (0, 0))) := fun X hX => hX _ _ _ _ hbne (by decide) hB1
  have HW : Hid (W = _) := hW
  have hse : ∀ n, ((x.E.take n).map (cntX d)).sum + ((x.E.drop n).map (cntX d)).sum = (x.E.map (cntX d)).sum := fun n => by
    conv => rhs; rw [← List.take_append_drop n x.E]
    rw [List.map_append, List.sum_append]
  have hgt : ∀ n, ∀ y ∈ x.E.take n, GoodX d pat (deep - 1) y := fun n y hy => h.good.2.2.1 y (List.mem_of_mem_take hy)
  have hgd : ∀ n, ∀ y ∈ x.E.drop n, GoodX d pat (deep - 1) y := fun n y hy => h.good.2.2.1 y (List.mem_of_mem_drop hy)
  have hjl : ∀ n, (joinS cmm ((x.E.take n).map (txtX d))).length ≤ 32 * ((x.E.take n).map (cntX d)).sum := fun n => by
    have h1 := joinS_len cmm ((x.E.take n).map (txtX d))
    have h2 := sumLen_le d pat (deep - 1) _ (hgt n)
    have h3 : (((x.E.take n).map (txtX d)).map fun x => cmm.length + x.length).sum = sumLen ((x.E.take n).map (txtX d)) := rfl
    omega
  obtain ⟨t, ht⟩ : ∃ t, x.E[0]? = some t := ⟨_, List.getElem?_eq_getElem (by omega)⟩
  obtain ⟨bb, o, vs, rfl, _⟩ := h.el 0 t ht
  clear ht
  have hs1 := hse 1
  have hj1 := hjl 1
  obtain ⟨-, -, -, hl2⟩ := hf
  have HC1 : Hid (∀ X, Bd w0 b l X → Calls Tryz.prog 28 #[.pointer (some ⟨b, 0, none⟩), .string ⟨#[40]⟩, .slice (some ⟨bb, o, none⟩) 1 c3, .string ((⟨#[32]⟩ ++ S) ++ ⟨#[32]⟩)] X fun r w' => r = .returned (.tuple #[]) ∧ Hid (Bd w0 b (l ++ (((⟨#[40]⟩ : ByteArray).data.toList ++ joinS cmm ((x.E.take 1).map (txtX d))) ++ ((⟨#[32]⟩ ++ S) ++ ⟨#[32]⟩ : ByteArray).data.toList)) w') ∧ Hid (BoxKept b X w')) := fun X hX => by
    have h7 := writeRow_of d H w0 b l ⟨#[40]⟩ ((⟨#[32]⟩ ++ S) ++ ⟨#[32]⟩) (some ⟨bb, o, none⟩) c3 (x.E.take 1) pat (deep - 1) X (h.el.take _) (hgt _) htb hX (by rw [List.length_take]; omega) (by have := h.sumE; omega) (by rw [ByteArray.size_append, ByteArray.size_append]; show _ + 1 + _ + (1 + _ + 1) + 2 ≤ _; omega)
    rw [List.length_take, hl, hl2] at h7
    exact h7
  obtain ⟨R1, hR1⟩ : ∃ R, l ++ (((⟨#[40]⟩ : ByteArray).data.toList ++ joinS cmm ((x.E.take 1).map (txtX d))) ++ ((⟨#[32]⟩ ++ S) ++ ⟨#[32]⟩ : ByteArray).data.toList) = R := ⟨_, rfl⟩
  have hR1s : R1.length = l.length + (1 + (joinS cmm ((x.E.take 1).map (txtX d))).length + (S.size + 2)) := by
    rw [← hR1, List.length_append, List.length_append, List.length_append, ba_len ((⟨#[32]⟩ ++ S) ++ ⟨#[32]⟩), ByteArray.size_append, ByteArray.size_append]
    show _ + (1 + _ + (1 + S.size + 1)) = _
    omega
  rw [hR1] at HC1
  have HC2 : Hid (∀ X, Bd w0 b R1 X → Calls Tryz.prog 28 #[.pointer (some ⟨b, 0, none⟩), .string ⟨#[]⟩, .slice (some ⟨bb, o + 1 * 5, none⟩) 1 (c3 - 1), .string ⟨#[41]⟩] X fun r w' => r = .returned (.tuple #[]) ∧ Hid (Bd w0 b (R1 ++ (((⟨#[]⟩ : ByteArray).data.toList ++ joinS cmm ((x.E.drop 1).map (txtX d))) ++ (⟨#[41]⟩ : ByteArray).data.toList)) w') ∧ Hid (BoxKept b X w')) := fun X hX => by
    have h7 := writeRow_of d H w0 b R1 ⟨#[]⟩ ⟨#[41]⟩ (some ⟨bb, o + 1 * 5, none⟩) (c3 - 1) (x.E.drop 1) pat (deep - 1) X (h.el.drop _) (hgd _) htb hX (by rw [List.length_drop]; omega) (by have := h.sumE; omega) (by show _ + 0 + _ + 1 + 2 ≤ _; omega)
    rw [List.length_drop, hl, hl2] at h7
    exact h7
  have HR : Hid (l ++ ((([40] ++ joinS cmm ((x.E.map (txtX d)).take 1)) ++ (([32] ++ S.data.toList) ++ [32])) ++ (joinS cmm ((x.E.map (txtX d)).drop 1) ++ [41])) = R1 ++ (((⟨#[]⟩ : ByteArray).data.toList ++ joinS cmm ((x.E.drop 1).map (txtX d))) ++ (⟨#[41]⟩ : ByteArray).data.toList)) := by
    show _ = R1 ++ (([] ++ _) ++ [41])
    rw [← hR1, ← List.map_take, ← List.map_drop, ba_append, ba_append]
    show _ = (l ++ (([40] ++ _) ++ (([32] ++ _) ++ [32]))) ++ _
    simp only [List.append_assoc, List.nil_append]
  have hR9 := hR0.trans HR.out
  obtain ⟨R2, hR2⟩ : ∃ R, R1 ++ (((⟨#[]⟩ : ByteArray).data.toList ++ joinS cmm ((x.E.drop 1).map (txtX d))) ++ (⟨#[41]⟩ : ByteArray).data.toList) = R := ⟨_, rfl⟩
  rw [hR2] at HC2 hR9
  have HRR : Hid (R = _) := hR9
  have hcap : len ≤ c3 := by have := h.cap; omega
  subst hl2
  have q3 : W.cell? ⟨w.heap.size, 3, none⟩ = some (.slice (some ⟨bb, o, none⟩) 2 c3) := by rw [cell_of_row W _ 3 _ _ _ hB1]; rfl
  have q2 : W.cell? ⟨w.heap.size, 2, none⟩ = some (.string S) := by rw [cell_of_row W _ 2 _ _ _ hB1]; rfl
  have HBW : Hid (Bd w0 b l W) := hBW
  have HBD : Hid (Bd w0 b l W.drew) := hBW.later (Below.refl _ _).drew
  have HKD : Hid (BoxKept b W W.drew) := BoxKept.of_below (Below.refl _ _).drew
  clear hse hgt hgd hjl hR1 hR2 hBW HR hs1 hj1 hR9
  clear hl hl4 hN hS H h hfit hA hB1 hB htb hR0
  try clear hf
  clear hcn
  go_enter Tryz.func16, Tryz.ntmps16
  go_wp2_with fail
  rw [← hW]
  clear hW HW
  go_region_with (go_at_call 28; refine (HC1.out _ HBD.out).mono ?_; rintro e w1 ⟨rfl, HB1, hk1⟩)
  all_goals
    have hk2 : BoxKept b W w1 := HKD.out.trans hk1.out
    have hbx := HBX.out w1 hk2
    have b3 : w1.cell? ⟨w.heap.size, 3, none⟩ = some (.slice (some ⟨bb, o, none⟩) 2 c3) := by rw [cell_of_row w1 _ 3 _ _ _ hbx]; rfl
    have HK1 : Hid (BoxKept b w w1) := HKA.out.trans hk2
    have hC := HC2.out w1 HB1.out
    clear hk1 hk2 hbx HKA HBX HB1 HC2 HC1 HBD HKD HBW q2 q3
    go_wp2_with fail
    refine hC.mono ?_
    clear hC b3
    rintro e w2 ⟨rfl, HFB, hk2⟩
    have HFK : Hid (BoxKept b w w2) := HK1.out.trans hk2.out
    clear hk2 HK1
    go_wp2_with fail
    go_end0
    exact ⟨rfl, by rw [HRR.out]; exact HFB, HFK⟩

set_option maxRecDepth 100000 in
set_option maxHeartbeats 2000000 in
theorem writeExpr_9 (d : Nat) (H : WxC d) (w0 : World) (b : Nat) (l : List UInt8) (pat : Bool) (deep : Int) (x : Ex (d + 1)) (a3 : Option Addr) (c3 : Nat) (a4 : Option Addr) (c4 : Nat) (w : World) (h : Hand d w0 pat deep x a3 c3 a4) (htb : TabOk w0) (hB : Bd w0 b l w) (hn : l.length + 32 * cntX (d + 1) x ≤ 1000000) (hk : x.K = 9) (R : List UInt8) (hR0 : R = l ++ txtX (d + 1) x) :
    Calls Tryz.prog 16 #[.pointer (some ⟨b, 0, none⟩), .agg #[.int .i64 x.K, .int .i64 x.N, .string x.S, .slice a3 x.E.length c3, .slice a4 x.C.length c4]] w fun r w' => r = .returned (.tuple #[]) ∧ Hid (Bd w0 b R w') ∧ Hid (BoxKept b w w') := by
  rw [txtX_eq, hk, body9] at hR0
  rw [hk]
  have hfit := h.good.2.1.1
  rw [hk] at hfit
  have hf := (fit9 _ _ _ _).1 hfit
  have hsz := fit_size hfit
  have hlen := h.lens
  have hcn : cntX (d + 1) x = 1 + (x.E.map (cntX d)).sum + (x.C.map (ClF (cntX d))).sum := rfl
  obtain ⟨len, hl⟩ : ∃ l, x.E.length = l := ⟨_, rfl⟩
  obtain ⟨l4, hl4⟩ : ∃ l, x.C.length = l := ⟨_, rfl⟩
  obtain ⟨N, hN⟩ : ∃ N, x.N = N := ⟨_, rfl⟩
  obtain ⟨S, hS⟩ : ∃ S, x.S = S := ⟨_, rfl⟩
  rw [hN, hS, hl, hl4] at hf
  rw [hl, hl4] at hlen
  rw [hS] at hsz
  try rw [hS] at hR0
  try rw [hN] at hR0
  rw [hN, hS, hl, hl4]
  obtain ⟨W, hW⟩ : ∃ W, W = w.alloc (.cells #[.int .i64 9, .int .i64 N, .string S, .slice a3 len c3, .slice a4 l4 c4] 39) := ⟨_, rfl⟩
  have hA : Below w.heap.size w W := by rw [hW]; exact (Below.refl _ _).alloc (Nat.le_refl _) _
  have hB1 : W.heap[w.heap.size]? = some (.cells #[.int .i64 9, .int .i64 N, .string S, .slice a3 len c3, .slice a4 l4 c4] 39 (0, 0)) := by rw [hW]; exact heap_alloc_new w _
  have HKA : Hid (BoxKept b w W) := BoxKept.of_below hA
  have hBW := hB.later hA
  have hbne : w.heap.size ≠ b := fun e => by have := hB.blt; omega
  have HBX : Hid (∀ X : World, BoxKept b W X → X.heap[w.heap.size]? = some (.cells #[.int .i64 9, .int .i64 N, .string S, .slice a3 len c3, .slice a4 l4 c4] 39 (0, 0))) := fun X hX => hX _ _ _ _ hbne (by decide) hB1
  have HW : Hid (W = _) := hW
  have hgc : ∀ c ∈ x.C, GoodX d true (deep - 1) c.1 ∧ GoodX d false (deep - 1) c.2 := fun c hc => (h.good.2.2.2 c hc).2
  have hj1 : (joinS cmm (x.E.map (txtX d))).length ≤ 32 * (x.E.map (cntX d)).sum := by
    have h1 := joinS_len cmm (x.E.map (txtX d))
    have h2 := sumLen_le d pat (deep - 1) _ h.good.2.2.1
    have h3 : ((x.E.map (txtX d)).map fun x => cmm.length + x.length).sum = sumLen (x.E.map (txtX d)) := rfl
    omega
  have hj2 : (joinS smc (x.C.map (clT d))).length ≤ 32 * (x.C.map (ClF (cntX d))).sum := by
    have h1 := joinS_len smc (x.C.map (clT d))
    have h2 : ((x.C.map (clT d)).map fun x => smc.length + x.length).sum ≤ 32 * (x.C.map (ClF (cntX d))).sum := by
      rw [List.map_map, ← sum_map_mul]
      exact sum_map_le _ _ _ fun c hc => clT_len (hgc c hc)
    omega
  have hC := writeRow_of d H w0 b l ⟨#[99, 97, 115, 101, 32]⟩ ⟨#[32, 111, 102, 32]⟩ a3 c3 x.E pat (deep - 1) W h.el h.good.2.2.1 htb hBW (by omega) h.sumE (by show _ + 5 + _ + 4 + 2 ≤ _; omega)
  rw [hl, hW] at hC
  obtain ⟨R1, hR1⟩ : ∃ R, l ++ (((⟨#[99, 97, 115, 101, 32]⟩ : ByteArray).data.toList ++ joinS cmm (x.E.map (txtX d))) ++ (⟨#[32, 111, 102, 32]⟩ : ByteArray).data.toList) = R := ⟨_, rfl⟩
  have hR1s : R1.length = l.length + (5 + (joinS cmm (x.E.map (txtX d))).length + 4) := by rw [← hR1, List.length_append, List.length_append, List.length_append]; rfl
  rw [hR1] at hC
  have HC2 : Hid (∀ X, Bd w0 b R1 X → Calls Tryz.prog 29 #[.pointer (some ⟨b, 0, none⟩), .slice a4 l4 c4] X fun r w' => r = .returned (.tuple #[]) ∧ Hid (Bd w0 b (R1 ++ joinS smc (x.C.map (clT d))) w') ∧ Hid (BoxKept b X w')) := fun X hX => by
    have h7 := writeClauses_of d H w0 b R1 a4 c4 x.C (deep - 1) X h.cl hgc htb hX (by omega) (by have := h.cnt; omega) (by omega)
    rw [hl4] at h7
    exact h7
  have HR : Hid (l ++ ((((([99, 97, 115, 101, 32] ++ joinS cmm (x.E.map (txtX d))) ++ [32, 111, 102, 32]) ++ joinS smc (x.C.map fun c => (txtX d c.1 ++ arr) ++ txtX d c.2))) ++ [32, 101, 110, 100]) = (R1 ++ joinS smc (x.C.map (clT d))) ++ (⟨#[32, 101, 110, 100]⟩ : ByteArray).data.toList) := by
    show _ = (R1 ++ joinS smc (x.C.map fun c => (txtX d c.1 ++ arr) ++ txtX d c.2)) ++ [32, 101, 110, 100]
    rw [← hR1]
    show _ = ((l ++ (([99, 97, 115, 101, 32] ++ _) ++ [32, 111, 102, 32])) ++ _) ++ _
    simp only [List.append_assoc]
  have hR9 := hR0.trans HR.out
  obtain ⟨R2, hR2⟩ : ∃ R, R1 ++ joinS smc (x.C.map (clT d)) = R := ⟨_, rfl⟩
  have hR2s : R2.length = R1.length + (joinS smc (x.C.map (clT d))).length := by rw [← hR2, List.length_append]
  rw [hR2] at HC2 hR9
  have HRR : Hid (R = _) := hR9
  have hR3 : R2.length + 4 ≤ 140737488355328 := by omega
  clear hgc hj1 hj2 hR1 hR2 hW hBW HR hR1s hR2s hR9
  clear hl hl4 hN hS H h hfit hA hB1 hB htb hR0
  try clear hf
  clear hcn
  go_enter Tryz.func16, Tryz.ntmps16
  go_wp2_with fail
  refine hC.mono ?_
  clear hC
  rintro e w1 ⟨rfl, HB1, hk1⟩
  rw [← HW.out] at hk1
  have hbx := HBX.out w1 hk1.out
  have b4 : w1.cell? ⟨w.heap.size, 4, none⟩ = some (.slice a4 l4 c4) := by rw [cell_of_row w1 _ 4 _ _ _ hbx]; rfl
  have HK1 : Hid (BoxKept b w w1) := HKA.out.trans hk1.out
  have hC := HC2.out w1 HB1.out
  clear hk1 hbx HKA HBX HW HB1 HC2
  go_wp2_with fail
  refine hC.mono ?_
  clear hC b4
  rintro e w2 ⟨rfl, HB2, hk2⟩
  have hWs := write_any w0 b R2 ⟨#[32, 101, 110, 100]⟩ w2 HB2.out hR3
  have HK2 : Hid (BoxKept b w w2) := HK1.out.trans hk2.out
  clear hk2 HK1 HB2
  go_wp2_with fail
  refine hWs.mono ?_
  clear hWs
  rintro e w3 ⟨rfl, HFB, hk3⟩
  have HFK : Hid (BoxKept b w w3) := HK2.out.trans hk3.out
  clear hk3 HK2
  go_wp2_with fail
  go_end0
  exact ⟨rfl, by rw [HRR.out]; exact HFB, HFK⟩

theorem writeExpr_any : ∀ d, WxC d := by
  intro d
  induction d with
  | zero => intro w0 b l vs e pat deep w h; exact h.elim
  | succ d ih =>
    rintro w0 b l vs x pat deep w ⟨ve, vc, rfl, ⟨h1, k1⟩, h2, k2⟩ hg ht hB hc hn
    obtain ⟨a3, c3, rfl, hel⟩ := h1
    obtain ⟨a4, c4, rfl, hcl⟩ := h2
    have hh : Hand d w0 pat deep x a3 c3 a4 := ⟨hel, hcl, hg, hc, k1 _ _ _ rfl⟩
    have hk : 1 ≤ x.K ∧ x.K ≤ 9 := Classical.byContradiction fun hn => fit_no _ _ _ _ _ hn hg.2.1.1
    rcases (by omega : x.K = 1 ∨ x.K = 2 ∨ x.K = 3 ∨ x.K = 4 ∨ x.K = 5 ∨ x.K = 6 ∨ x.K = 7 ∨ x.K = 8 ∨ x.K = 9) with hk | hk | hk | hk | hk | hk | hk | hk | hk
    · exact writeExpr_1 d ih w0 b l pat deep x a3 c3 a4 c4 w hh ht hB hn hk _ rfl
    · exact writeExpr_2 d ih w0 b l pat deep x a3 c3 a4 c4 w hh ht hB hn hk _ rfl
    · exact writeExpr_3 d ih w0 b l pat deep x a3 c3 a4 c4 w hh ht hB hn hk _ rfl
    · exact writeExpr_4 d ih w0 b l pat deep x a3 c3 a4 c4 w hh ht hB hn hk _ rfl
    · exact writeExpr_5 d ih w0 b l pat deep x a3 c3 a4 c4 w hh ht hB hn hk _ rfl
    · exact writeExpr_6 d ih w0 b l pat deep x a3 c3 a4 c4 w hh ht hB hn hk _ rfl
    · exact writeExpr_7 d ih w0 b l pat deep x a3 c3 a4 c4 w hh ht hB hn hk _ rfl
    · exact writeExpr_8 d ih w0 b l pat deep x a3 c3 a4 c4 w hh ht hB hn hk _ rfl
    · exact writeExpr_9 d ih w0 b l pat deep x a3 c3 a4 c4 w hh ht hB hn hk _ rfl

end Go.Proofs.YtgeedoeaepcmcaaGreatDoor
