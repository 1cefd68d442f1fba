/- The law's own marks on texts; the program's names of an expression, as the law calls for them. -/
import Derived.Test.YtpokheklplcamaaXk3M
import Derived.Test.YtpokheklplcamaaNm2M
import Derived.Test.YtpokheklplcamaaRowClauseM
namespace Go.Proofs.Ytpokheklplcamaa
open Go.RowKit
set_option linter.unusedVariables false

set_option maxHeartbeats 1000000 in
theorem markStrs_any (v : Value) (l : List ByteArray) (B : Nat) (k : Int) (w : World) (h : StrRow w B v l) (h0 : 0 ≤ k) (hm : k + (l.length : Int) ≤ 1099511627776) :
    Calls Try.prog 24 #[v, .int .i64 k] w fun e w' => e = .returned (.int .i64 (k + (l.length : Int))) ∧ StrRow w' B v (mks k l.length) ∧ Wrote v.ownBlock.toList w w' := by
  obtain ⟨n, hn⟩ : ∃ n, l.length = n := ⟨_, rfl⟩
  obtain ⟨h1, h2⟩ := h
  rw [hn] at h2 hm ⊢
  rcases h2 with ⟨rfl, rfl⟩ | ⟨g, cap, cur, rfl, hB, hg, hc1, hc2, hc3, _⟩
  · go_enter Try.func24, Try.ntmps24
    go_wp2
    refine wp_loop_rounds 1 ?_
    rw [rounds_succ]
    go_wp2
    go_ret
    exact ⟨tret1 (by omega), ⟨rfl, .inl ⟨rfl, rfl⟩⟩, Wrote.refl _ _⟩
  · have HC : Hid (cur.size = cap * 1 ∧ n ≤ cap ∧ cap ≤ maxLen ∧ B ≤ g) := ⟨hc3, hc1, hc2, hB⟩
    clear hn h1 hc1 hc2 hc3 hB
    go_enter Try.func24, Try.ntmps24
    go_wp2_with fail
    go_loopw [1, 5] (fun x i wr => ∃ (j : Nat) (cu : Array Value), j ≤ n ∧ i = .int .i64 j ∧ x = .int .i64 (k + (j : Int)) ∧ wr.heap[g]? = some (.cells cu 9 (0, 0)) ∧ Hid (cu.size = cur.size ∧ (∀ i, i < j → cu[i]? = some (.string (mt (k + (i : Nat))))) ∧ Wrote [g] w wr)) (fun _ i _ => n - (intOf i).toNat)
    case atStart => exact ⟨0, cur, Nat.zero_le _, rfl, by show Value.int .i64 k = .int .i64 (k + ((0 : Nat) : Int)); rw [show k + ((0 : Nat) : Int) = k from by omega], hg, rfl, fun i hi => by omega, Wrote.refl _ _⟩
    case round =>
      obtain ⟨j, cu, hj, rfl, rfl, hh, HI⟩ := hrel
      clear hg
      by_cases hjl : j < n
      · have hjl' : (j : Int) < (n : Int) := by omega
        have hC := markText_any (k + (j : Int)) wr (by omega) (by omega)
        have hgz := lt_row hh
        have HH : Hid (wr.heap[g]? = some (.cells cu 9 (0, 0))) := hh
        clear hh
        go_wp2_with fail
        refine hC.mono ?_
        clear hC
        rintro e V ⟨rfl, hBV⟩
        have hhV := (hBV.block g hgz).trans HH.out
        have hsz : j < cu.size := by have := HI.out.1; have := HC.out; omega
        have f0 : V.cell? ⟨g, j, none⟩ = some cu[j] := by rw [cell_of_row V _ _ _ _ _ hhV]; exact Array.getElem?_eq_getElem hsz
        have z0 : V.frozen? ⟨g, j, none⟩ = false := frozen_of_row V _ _ _ _ hhV
        have hA := heap_setCell_same V g j cu 9 (.string (mt (k + (j : Int)))) hhV
        have HA : Hid ((V.setCell ⟨g, j, none⟩ (.string (mt (k + (j : Int))))).heap[g]? = _) := hA
        have HN : Hid ((cu.setIfInBounds j (.string (mt (k + (j : Int))))).size = cur.size ∧ (∀ i, i < j + 1 → (cu.setIfInBounds j (.string (mt (k + (j : Int)))))[i]? = some (.string (mt (k + (i : Nat))))) ∧ Wrote [g] w (V.setCell ⟨g, j, none⟩ (.string (mt (k + (j : Int)))))) := by
          refine ⟨by rw [Array.size_setIfInBounds]; exact HI.out.1, fun i hi => ?_, (HI.out.2.2.trans (Wrote.of_below hBV)).trans (Wrote.of_set V g j _)⟩
          by_cases e : i = j
          · subst e; rw [Array.getElem?_setIfInBounds_self, if_pos hsz]
          · rw [Array.getElem?_setIfInBounds_ne (by omega)]; exact HI.out.2.1 i (by omega)
        clear hA hhV hBV
        go_wp2
        go_roundw
        case rel => exact ⟨j + 1, _, by omega, by go_num, by go_num, HA.out, HN⟩
        case measure => simp [intOf]; omega
      · obtain rfl : j = n := by omega
        have HR : Hid (StrRow wr B (.slice (some ⟨g, 0, none⟩) j cap) (mks k j) ∧ Wrote [g] w wr) := by
          refine ⟨⟨by rw [mks_len]; simp [mks], .inr ⟨g, cap, cu, by rw [mks_len], HC.out.2.2.2, hh, by rw [mks_len]; exact HC.out.2.1, HC.out.2.2.1, HI.out.1.trans HC.out.1, ?_⟩⟩, HI.out.2.2⟩
          rw [mks_len, Nat.mul_one]
          apply List.ext_getElem?
          intro i
          by_cases hi : i < j
          · rw [List.getElem?_take, if_pos hi, List.getElem?_map, mks_at k j i hi]
            have := HI.out.2.1 i hi
            simpa using this
          · rw [List.getElem?_eq_none (by rw [List.length_take]; omega), List.getElem?_eq_none (by rw [List.length_map, mks_len]; omega)]
        clear hh
        go_wp2
        go_ret
        exact ⟨rfl, HR.out.1, HR.out.2⟩

theorem varsOf_any (d : Nat) (vs : List Value) (e : Ex d) (fp : List Nat) (w : World) (hown : ExO d w vs e fp) (hnd : fp.Nodup) (hlt : ∀ g ∈ fp, g < w.heap.size) (hz : szX d e ≤ 1048576) :
    Calls Try.prog 16 #[.agg vs.toArray] w fun r w' => ∃ v, r = .returned v ∧ Hid (StrRow w' w.heap.size v (vars d e)) ∧ Below w.heap.size w w' := by
  obtain ⟨i0, i1, s2, a3, l3, c3, a4, l4, c4, rfl⟩ := ExO.shape d w vs e fp hown
  obtain ⟨W, hW⟩ : ∃ W, W = w.alloc (Obj.cells #[.int .i64 i0, .int .i64 i1, .string s2, .slice a3 l3 c3, .slice a4 l4 c4] 27) := ⟨_, rfl⟩
  have hA : Below w.heap.size w W := by rw [hW]; exact (Below.refl _ _).alloc (Nat.le_refl _) _
  have hN := namesIn_any d _ e fp 33554432 w hown hnd hlt hz
  have hN1 := namesIn_any d _ e fp 33554432 W (ExO.lasts d _ _ _ _ _ hown fun g hg => hA.block g (hlt g hg)) hnd (fun g hg => Nat.lt_of_lt_of_le (hlt g hg) hA.size) hz
  rw [hW] at hN1
  have HW : Hid (W = _) := hW
  have HA : Hid (Below w.heap.size w W) := hA
  clear hown hnd hlt hz hW hA
  go_enter Try.func16, Try.ntmps16
  go_wp2_with fail
  first
    | (refine hN.mono ?_
       rintro r w1 ⟨v, rfl, HR, hb⟩
       go_wp2_with fail
       go_ret
       exact ⟨_, rfl, HR, hb⟩)
    | (refine hN1.mono ?_
       rintro r w1 ⟨v, rfl, HR, hb⟩
       rw [← HW.out] at hb HR
       have HR2 : Hid (StrRow w1 w.heap.size v (vars d e)) := HR.out.low HA.out.size
       go_wp2_with fail
       go_ret
       exact ⟨_, rfl, HR2, HA.out.trans (hb.mono HA.out.size)⟩)

end Go.Proofs.Ytpokheklplcamaa

/- What the laws of expressions hold in hand. -/
namespace Go.Proofs.Ytpokheklplcamaa
open Go.RowKit
set_option linter.unusedVariables false

/-- The law's own argument's box, and what the model said. -/
structure VSt (w V : World) (ob : Array Value) (v1 : Value) (l : List ByteArray) (lo : Nat) : Prop where
  box : V.heap[w.heap.size]? = some (.cells ob 38 (0, 0))
  r1 : StrRow V w.heap.size v1 l
  low : ∀ g, v1.ownBlock = some g → g < lo
  bel : Below w.heap.size w V
  lim : w.heap.size < lo

theorem VSt.later {w V V' : World} {ob : Array Value} {v1 : Value} {l : List ByteArray} {lo : Nat} (h : VSt w V ob v1 l lo) (hb : Below V.heap.size V V') : VSt w V' ob v1 l lo :=
  ⟨(hb.block _ (lt_row h.box)).trans h.box, h.r1.kept fun g hg => hb.block g (h.r1.blk g hg).2, h.low, h.bel.trans (hb.mono h.bel.size), h.lim⟩

theorem VSt.wrote {w V V' : World} {ob : Array Value} {v1 : Value} {l : List ByteArray} {lo : Nat} {fp : List Nat} (h : VSt w V ob v1 l lo) (hb : Wrote fp V V') (hf : ∀ g ∈ fp, lo ≤ g) : VSt w V' ob v1 l lo := by
  have hn : ∀ g, g < lo → g ∉ fp := fun g hg hm => by have := hf g hm; omega
  have hl := h.lim
  refine ⟨(hb.block _ (lt_row h.box) (hn _ h.lim)).trans h.box, h.r1.kept fun g hg => hb.block g (h.r1.blk g hg).2 (hn g (h.low g hg)), h.low, ?_, h.lim⟩
  exact h.bel.trans ⟨hb.os, hb.tape, hb.output, hb.size, fun g hg => hb.block g (Nat.lt_of_lt_of_le hg h.bel.size) (hn g (by omega))⟩

theorem five_at {V : World} {A : Nat} {x0 x1 x2 x3 x4 : Value} {t : TypeId} (h : V.heap[A]? = some (.cells #[x0, x1, x2, x3, x4] t (0, 0))) : V.cell? ⟨A, 0, none⟩ = some x0 ∧ V.cell? ⟨A, 1, none⟩ = some x1 ∧ V.cell? ⟨A, 2, none⟩ = some x2 ∧ V.cell? ⟨A, 3, none⟩ = some x3 ∧ V.cell? ⟨A, 4, none⟩ = some x4 :=
  ⟨by rw [cell_of_row V _ 0 _ _ _ h]; rfl, by rw [cell_of_row V _ 1 _ _ _ h]; rfl, by rw [cell_of_row V _ 2 _ _ _ h]; rfl, by rw [cell_of_row V _ 3 _ _ _ h]; rfl, by rw [cell_of_row V _ 4 _ _ _ h]; rfl⟩

end Go.Proofs.Ytpokheklplcamaa
