/- The program's text of an expression: rows and clauses. -/
import Derived.Test.YtgeedoeaepcmcaaGreatDoorTx2bM
import Derived.Test.YtgeedoeaepcmcaaGreatDoorDr1M
namespace Go.Proofs.YtgeedoeaepcmcaaGreatDoor
open Go.RowKit
set_option linter.unusedVariables false

theorem BoxKept.refl (b : Nat) (w : World) : BoxKept b w w := fun _ _ _ _ _ _ h => h
theorem BoxKept.trans {b : Nat} {w w' w'' : World} (h : BoxKept b w w') (k : BoxKept b w' w'') : BoxKept b w w'' := fun g cs T fz h1 h2 h3 => k g cs T fz h1 h2 (h g cs T fz h1 h2 h3)
theorem BoxKept.of_below {b : Nat} {w w' : World} (h : Below w.heap.size w w') : BoxKept b w w' := fun g cs T fz _ _ h3 => (h.block g (lt_row h3)).trans h3
theorem Bd.blt {w0 : World} {b : Nat} {l : List UInt8} {w : World} (h : Bd w0 b l w) : b < w.heap.size := by
  rcases h.1 with ⟨_, v, q1, _⟩ | ⟨_, v, q1, _⟩ <;> exact (Array.getElem?_eq_some_iff.1 q1).1

/-- The contract of the program's writing. -/
def WxC (d : Nat) : Prop := ∀ (w0 : World) (b : Nat) (l : List UInt8) (vs : List Value) (e : Ex d) (pat : Bool) (deep : Int) (w : World), ExC d w0 vs e → GoodX d pat deep e → TabOk w0 → Bd w0 b l w → cntX d e ≤ 1000 → l.length + 32 * cntX d e ≤ 1000000 →
  Calls Tryz.prog 16 #[.pointer (some ⟨b, 0, none⟩), .agg vs.toArray] w fun r w' => r = .returned (.tuple #[]) ∧ Hid (Bd w0 b (l ++ txtX d e) w') ∧ Hid (BoxKept b w w')

theorem ElR.drop {d : Nat} {w : World} {b o : Nat} {es : List (Ex d)} (h : ElR d w (some ⟨b, o, none⟩) es) (n : Nat) : ElR d w (some ⟨b, o + n * 5, none⟩) (es.drop n) := fun i e he => by
  rw [List.getElem?_drop] at he
  obtain ⟨b', o', vs, h1, h2, h3, h4⟩ := h (n + i) e he
  simp only [Option.some.injEq, Addr.mk.injEq, and_true] at h1
  obtain ⟨rfl, rfl⟩ := h1
  refine ⟨b, o + n * 5, vs, rfl, h2, fun j u hu => ?_, h4⟩
  have := h3 j u hu
  rw [show o + n * 5 + i * 5 + j = o + (n + i) * 5 + j by rw [Nat.add_mul]; omega]
  exact this

theorem sumP_lt {d : Nat} {es : List (Ex d)} {j : Nat} {t : Ex d} (h : es[j]? = some t) : cntX d t ≤ (es.map (cntX d)).sum := cnt_mem (List.mem_of_getElem? h)

/-- What a row under way is not longer than. -/
theorem row_lim {d : Nat} {pat : Bool} {deep : Int} {es : List (Ex d)} (hg : ∀ x ∈ es, GoodX d pat deep x) (j : Nat) (t : Ex d) (ht : es[j]? = some t) : (joinS cmm ((es.map (txtX d)).take j)).length + 2 + 32 * cntX d t ≤ 32 * (es.map (cntX d)).sum + 2 := by
  have h1 := joinS_len cmm ((es.map (txtX d)).take j)
  have h2 : (((es.map (txtX d)).take j).map fun x => cmm.length + x.length).sum ≤ 32 * sumP (cntX d) es j := by
    unfold sumP
    rw [← List.map_take, List.map_map, ← sum_map_mul]
    refine sum_map_le _ _ _ fun x hx => ?_
    have := txtX_len d pat deep x (hg x (List.mem_of_mem_take hx))
    show 2 + (txtX d x).length ≤ _
    omega
  have h3 := sumP_succ (cntX d) es j t ht
  have h4 := sumP_le (cntX d) es (j + 1)
  omega

set_option maxRecDepth 100000 in
set_option maxHeartbeats 2000000 in
theorem writeRow_of (d : Nat) (H : WxC d) (w0 : World) (b : Nat) (l : List UInt8) (op en : ByteArray) (a : Option Addr) (c : Nat) (es : List (Ex d)) (pat : Bool) (deep : Int) (w : World) (he : ElR d w0 a es) (hg : ∀ x ∈ es, GoodX d pat deep x) (ht : TabOk w0) (hB : Bd w0 b l w) (hl : es.length ≤ 1048576) (hcs : (es.map (cntX d)).sum ≤ 1000) (hn : l.length + op.size + 32 * (es.map (cntX d)).sum + en.size + 2 ≤ 1000000) :
    Calls Tryz.prog 28 #[.pointer (some ⟨b, 0, none⟩), .string op, .slice a es.length c, .string en] w fun r w' => r = .returned (.tuple #[]) ∧ Hid (Bd w0 b (l ++ ((op.data.toList ++ joinS cmm (es.map (txtX d))) ++ en.data.toList)) w') ∧ Hid (BoxKept b w w') := by
  have HE : Hid (ElR d w0 a es) := he
  have HG : Hid (∀ x ∈ es, GoodX d pat deep x) := hg
  have HT : Hid (TabOk w0) := ht
  have HCS : Hid ((es.map (cntX d)).sum ≤ 1000) := hcs
  have HH : Hid (WxC d) := H
  have HLM : Hid (∀ (j : Nat) (t : Ex d), es[j]? = some t → (joinS cmm ((es.map (txtX d)).take j)).length + 2 + 32 * cntX d t ≤ 32 * (es.map (cntX d)).sum + 2) := fun j t ht => row_lim hg j t ht
  have HLA : Hid ((joinS cmm (es.map (txtX d))).length ≤ 32 * (es.map (cntX d)).sum) := by
    have h1 := joinS_len cmm (es.map (txtX d))
    have h2 := sumLen_le d pat deep es hg
    have h3 : ((es.map (txtX d)).map fun x => cmm.length + x.length).sum = sumLen (es.map (txtX d)) := rfl
    show _ ≤ _
    omega
  obtain ⟨len, hlen⟩ : ∃ l, es.length = l := ⟨_, rfl⟩
  have HL : Hid (es.length = len) := hlen
  obtain ⟨M, hM⟩ : ∃ m, (es.map (cntX d)).sum = m := ⟨_, rfl⟩
  rw [hM] at HLM HLA hn
  rw [hlen] at hl ⊢
  have hW := write_any w0 b l op w hB (by omega)
  obtain ⟨l1, hl1⟩ : ∃ x, l ++ op.data.toList = x := ⟨_, rfl⟩
  have hl1s : l1.length = l.length + op.size := by rw [← hl1, List.length_append, ba_len]
  rw [hl1] at hW
  have HR : Hid (l ++ ((op.data.toList ++ joinS cmm (es.map (txtX d))) ++ en.data.toList) = (l1 ++ joinS cmm (es.map (txtX d))) ++ en.data.toList) := by
    show _ = _
    rw [← hl1]
    simp only [List.append_assoc]
  rw [HR.out]
  clear he hg ht H hB hlen hM hl1 HR hcs
  go_enter Tryz.func28, Tryz.ntmps28
  go_wp2_with fail
  refine hW.mono ?_
  clear hW
  rintro e w1 ⟨rfl, HB1, HK1⟩
  go_wp2_with fail
  go_loopw [15] (fun i wr => ∃ j : Nat, j ≤ len ∧ i = .int .i64 j ∧ Hid (Bd w0 b (l1 ++ joinS cmm ((es.map (txtX d)).take j)) wr) ∧ Hid (BoxKept b w wr)) (fun i _ => len - (intOf i).toNat)
  case atStart => exact ⟨0, Nat.zero_le _, rfl, by show Bd w0 b (l1 ++ []) w1; rw [List.append_nil]; exact HB1.out, HK1⟩
  case round =>
    clear HB1 HK1
    obtain ⟨j, hj, rfl, HB, HK⟩ := hrel
    have hbw : Below w0.heap.size w0 wr := HB.out.2
    by_cases hjl : j < len
    · obtain ⟨t, ht⟩ : ∃ t, es[j]? = some t := ⟨_, List.getElem?_eq_getElem (by have := HL.out; omega)⟩
      obtain ⟨bb, o, vs, rfl, hvl, hcell, hre⟩ := HE.out j t ht
      obtain ⟨y0, y1, y2, ya3, yl3, yc3, ya4, yl4, yc4, rfl⟩ := ExC.shape _ _ _ _ hre
      have f0 : wr.cell? ⟨bb, o + j * 5, none⟩ = some _ := cell_later hbw (hcell 0 _ rfl)
      have f1 : wr.cell? ⟨bb, o + j * 5 + 1, none⟩ = some _ := cell_later hbw (hcell 1 _ rfl)
      have f2 : wr.cell? ⟨bb, o + j * 5 + 2, none⟩ = some _ := cell_later hbw (hcell 2 _ rfl)
      have f3 : wr.cell? ⟨bb, o + j * 5 + 3, none⟩ = some _ := cell_later hbw (hcell 3 _ rfl)
      have f4 : wr.cell? ⟨bb, o + j * 5 + 4, none⟩ = some _ := cell_later hbw (hcell 4 _ rfl)
      have hlm := HLM.out j t ht
      have hst := joinS_succ cmm (es.map (txtX d)) j (txtX d t) (by rw [List.getElem?_map, ht]; rfl)
      obtain ⟨W, hW⟩ : ∃ W, W = wr.alloc (.cells #[.int .i64 y0, .int .i64 y1, .string y2, .slice ya3 yl3 yc3, .slice ya4 yl4 yc4] 39) := ⟨_, rfl⟩
      have hwW : Below wr.heap.size wr W := by rw [hW]; exact (Below.refl _ _).alloc (Nat.le_refl _) _
      have hbox : W.heap[wr.heap.size]? = some (.cells #[.int .i64 y0, .int .i64 y1, .string y2, .slice ya3 yl3 yc3, .slice ya4 yl4 yc4] 39 (0, 0)) := by rw [hW]; exact heap_alloc_new wr _
      have HBW : Hid (Bd w0 b (l1 ++ joinS cmm ((es.map (txtX d)).take j)) W) := HB.out.later hwW
      have HKW : Hid (BoxKept b w W) := HK.out.trans (BoxKept.of_below hwW)
      have hbne : wr.heap.size ≠ b := fun e => by have := HB.out.blt; omega
      have HC : Hid (∀ (m : List UInt8) (X : World), Bd w0 b m X → m.length + 32 * cntX d t ≤ 1000000 → Calls Tryz.prog 16 #[.pointer (some ⟨b, 0, none⟩), .agg #[.int .i64 y0, .int .i64 y1, .string y2, .slice ya3 yl3 yc3, .slice ya4 yl4 yc4]] X fun r w' => r = .returned (.tuple #[]) ∧ Hid (Bd w0 b (m ++ txtX d t) w') ∧ Hid (BoxKept b X w')) := fun m X hX hm => HH.out w0 b m _ t pat deep X hre (HG.out t (List.mem_of_getElem? ht)) HT.out hX (Nat.le_trans (sumP_lt ht) HCS.out) hm
      have HW : Hid (W = _) := hW
      have hjl' : (j : Int) < (len : Int) := by omega
      obtain ⟨J, hJ⟩ : ∃ J, joinS cmm ((es.map (txtX d)).take j) = J := ⟨_, rfl⟩
      rw [hJ] at hlm hst HBW
      clear hcell hre hvl HB HK HG HE HH HT ht hJ
      by_cases hj0 : 0 < j
      · rw [if_pos hj0] at hst
        have HST : Hid (l1 ++ joinS cmm ((es.map (txtX d)).take (j + 1)) = ((l1 ++ J) ++ (⟨#[44, 32]⟩ : ByteArray).data.toList) ++ txtX d t) := by
          show _ = ((l1 ++ J) ++ cmm) ++ _
          rw [hst]
          simp only [List.append_assoc]
        have hWs := write_any w0 b _ ⟨#[44, 32]⟩ W HBW.out (by rw [List.length_append]; show _ + 2 ≤ _; omega)
        have HC2 : Hid (∀ X, Bd w0 b ((l1 ++ J) ++ (⟨#[44, 32]⟩ : ByteArray).data.toList) X → _) := fun X hX => HC.out _ X hX (by rw [List.length_append, List.length_append]; show _ + 2 + _ ≤ _; omega)
        have hbj : decide ((0 : Int) < j) = true := by simp; omega
        rw [hW] at hWs
        clear hW hst HBW HC
        go_wp2_with fail
        refine hWs.mono ?_
        clear hWs
        rintro e w2 ⟨rfl, BDC, hbk⟩
        rw [← HW.out] at hbk
        have hbox2 := hbk.out _ _ _ _ hbne (by decide) hbox
        have HK2 : Hid (BoxKept b w w2) := HKW.out.trans hbk.out
        have c0 : w2.cell? ⟨wr.heap.size, 0, none⟩ = some (.int .i64 y0) := by rw [cell_of_row w2 _ 0 _ _ _ hbox2]; rfl
        have c1 : w2.cell? ⟨wr.heap.size, 1, none⟩ = some (.int .i64 y1) := by rw [cell_of_row w2 _ 1 _ _ _ hbox2]; rfl
        have c2 : w2.cell? ⟨wr.heap.size, 2, none⟩ = some (.string y2) := by rw [cell_of_row w2 _ 2 _ _ _ hbox2]; rfl
        have c3 : w2.cell? ⟨wr.heap.size, 3, none⟩ = some (.slice ya3 yl3 yc3) := by rw [cell_of_row w2 _ 3 _ _ _ hbox2]; rfl
        have c4 : w2.cell? ⟨wr.heap.size, 4, none⟩ = some (.slice ya4 yl4 yc4) := by rw [cell_of_row w2 _ 4 _ _ _ hbox2]; rfl
        have hC := HC2.out w2 BDC.out
        clear hbk hbox hbox2 HW hwW f0 f1 f2 f3 f4 HKW HC2 BDC
        go_wp2_with fail
        refine hC.mono ?_
        clear hC c0 c1 c2 c3 c4
        rintro e w3 ⟨rfl, HB3, HK3⟩
        have HB4 : Hid (Bd w0 b (l1 ++ joinS cmm ((es.map (txtX d)).take (j + 1))) w3) := by rw [HST.out]; exact HB3
        have HK4 : Hid (BoxKept b w w3) := HK2.out.trans HK3.out
        clear HB3 HST HK2 HK3
        go_wp2_with fail
        go_roundw
        case rel => exact ⟨j + 1, by omega, by go_num, HB4, HK4⟩
        case measure => simp [intOf]; omega
      · rw [if_neg hj0] at hst
        have HST : Hid (l1 ++ joinS cmm ((es.map (txtX d)).take (j + 1)) = (l1 ++ J) ++ txtX d t) := by
          show _ = _
          rw [hst]
          simp only [List.append_assoc]
        have hC := HC.out _ W HBW.out (by rw [List.length_append]; omega)
        have hbj : decide ((0 : Int) < j) = false := by simp; omega
        rw [hW] at hC
        clear hW hst HBW HC hbox hwW
        go_wp2_with fail
        refine hC.mono ?_
        clear hC
        rintro e w3 ⟨rfl, HB3, HK3⟩
        rw [← HW.out] at HK3
        have HB4 : Hid (Bd w0 b (l1 ++ joinS cmm ((es.map (txtX d)).take (j + 1))) w3) := by rw [HST.out]; exact HB3
        have HK4 : Hid (BoxKept b w w3) := HKW.out.trans HK3.out
        clear HB3 HST HKW HK3 HW f0 f1 f2 f3 f4
        go_wp2_with fail
        go_roundw
        case rel => exact ⟨j + 1, by omega, by go_num, HB4, HK4⟩
        case measure => simp [intOf]; omega
    · obtain rfl : j = len := by omega
      have HBE : Hid (Bd w0 b (l1 ++ joinS cmm (es.map (txtX d))) wr) := by
        have := HB.out
        rw [List.take_of_length_le (by rw [List.length_map, HL.out]; exact Nat.le_refl _)] at this
        exact this
      have hWs := write_any w0 b _ en wr HBE.out (by rw [List.length_append]; have := HLA.out; omega)
      have hjl' : decide ((j : Int) < (j : Int)) = false := by simp
      clear HB HE HG HH HT HLM hbw HBE
      go_wp2_with fail
      refine hWs.mono ?_
      clear hWs
      rintro e w2 ⟨rfl, h2, hk2⟩
      have HK4 : Hid (BoxKept b w w2) := HK.out.trans hk2.out
      clear hk2 HK
      go_wp2_with fail
      go_end0
      exact ⟨rfl, h2, HK4⟩

end Go.Proofs.YtgeedoeaepcmcaaGreatDoor
