/- The program's look at a pattern in all its storeys. -/
import Derived.Test.YtgeedoeaepcmcaaGreatDoorLk1M
import Derived.Test.YtgeedoeaepcmcaaGreatDoorLp1M
import Derived.Test.YtgeedoeaepcmcaaGreatDoorXk4M
import Derived.Test.YtgeedoeaepcmcaaGreatDoorFxM
namespace Go.Proofs.YtgeedoeaepcmcaaGreatDoor
open Go.RowKit
set_option linter.unusedVariables false

/-- The contract of the check of a pattern's form, at a depth, with a count of how many may be left. -/
def PfC (d : Nat) : Prop := ∀ (w0 : World) (vs : List Value) (e : Ex d) (deep L : Int) (p : Nat) (w : World), ExR d w0 vs e → szX d e ≤ 1048576 → Below w0.heap.size w0 w → w0.heap.size ≤ p → w.heap[p]? = some (.cells #[.int .i64 L] 3 (0, 0)) → 1 ≤ deep → deep ≤ 1000 → 0 ≤ L → L ≤ 1000000 →
  Calls Tryz.prog 84 #[.agg vs.toArray, .int .i64 deep, .pointer (some ⟨p, 0, none⟩)] w fun r w' => ∃ b : Bool, r = .returned (.bool b) ∧ Hid (b = true ↔ FineX d true (11 - deep) L e) ∧
    Hid (b = true → w'.heap[p]? = some (.cells #[.int .i64 (L - cntX d e)] 3 (0, 0))) ∧ Turned p w w'

set_option maxHeartbeats 1000000 in
/-- What is refused at once. -/
theorem patFormed_no (k n : Int) (s : ByteArray) (a3 : Option Addr) (e c3 : Nat) (a4 : Option Addr) (c c4 : Nat) (deep L : Int) (p : Nat) (w : World) (hs : s.size ≤ 9223372036854775807) (he : e ≤ 9223372036854775807) (hc : c ≤ 9223372036854775807)
    (hcell : w.heap[p]? = some (.cells #[.int .i64 L] 3 (0, 0))) (hd0 : 1 ≤ deep) (hd1 : deep ≤ 1000) (hL0 : 0 ≤ L) (hL1 : L ≤ 1000000) (h : L = 0 ∨ 10 < deep ∨ ¬ ShX true k n s e c) :
    Calls Tryz.prog 84 #[.agg #[.int .i64 k, .int .i64 n, .string s, .slice a3 e c3, .slice a4 c c4], .int .i64 deep, .pointer (some ⟨p, 0, none⟩)] w fun e w' => e = .returned (.bool false) ∧ Turned p w w' := by
  have hpz : p < w.heap.size := lt_row hcell
  have c0 : w.cell? ⟨p, 0, none⟩ = some (.int .i64 L) := by rw [cell_of_row w _ 0 _ _ _ hcell]; rfl
  have z0 : w.frozen? ⟨p, 0, none⟩ = false := frozen_of_row w _ _ _ _ hcell
  have hT0 : ∀ x o1, Turned p w ((w.setCell ⟨p, 0, none⟩ (.int .i64 x)).alloc o1) := fun x o1 => (Turned.of_set _ _ _ _).trans (Turned.of_below ((Below.refl _ _).alloc (Nat.le_refl _) _))
  by_cases h1 : L = 0
  · subst h1
    have hT := hT0 (-1) (.cells #[.int .i64 k, .int .i64 n, .string s, .slice a3 e c3, .slice a4 c c4] 39)
    clear h
    go_enter Tryz.func84, Tryz.ntmps84
    go_wp2_with fail
    go_ret
    exact ⟨rfl, hT⟩
  · have hL2 : decide (L - 1 < 0) = false := by simp; omega
    by_cases h2 : 10 < deep
    · have hT := hT0 (L - 1) (.cells #[.int .i64 k, .int .i64 n, .string s, .slice a3 e c3, .slice a4 c c4] 39)
      clear h h1
      go_enter Tryz.func84, Tryz.ntmps84
      go_wp2_with fail
      go_ret
      exact ⟨rfl, hT⟩
    · have hT := hT0 (L - 1) (.cells #[.int .i64 k, .int .i64 n, .string s, .slice a3 e c3, .slice a4 c c4] 39)
      by_cases h6 : 6 < k
      · clear h h1
        go_enter Tryz.func84, Tryz.ntmps84
        go_wp2_with fail
        go_ret
        exact ⟨rfl, hT⟩
      · have h3 : Hid (¬ Fit k n s e c) := by
          rcases h with h | h | h
          · exact absurd h h1
          · exact absurd h h2
          · exact fun hf => h ⟨hf, fun _ => by omega, fun e => Bool.noConfusion e⟩
        have hC := exprFit_any k n s a3 e c3 a4 c c4 ((w.setCell ⟨p, 0, none⟩ (.int .i64 (L - 1))).alloc (.cells #[.int .i64 k, .int .i64 n, .string s, .slice a3 e c3, .slice a4 c c4] 39)) hs he hc
        have HT : Hid (Turned p w _) := hT
        clear h h1 hT hT0
        go_enter Tryz.func84, Tryz.ntmps84
        go_wp2_with fail
        refine hC.mono ?_
        clear hC
        rintro e w1 ⟨b, rfl, hb, hB⟩
        have hb2 : Turned p w w1 := HT.out.trans (Turned.of_below hB)
        have : b = false := by cases b; rfl; exact absurd (hb.out.1 rfl) h3.out
        subst this
        clear hb hB h3 HT
        go_wp2_with fail
        go_ret
        exact ⟨rfl, hb2⟩

set_option maxRecDepth 100000 in
set_option maxHeartbeats 4000000 in
theorem patFormed_of (d : Nat) (H : PfC d) : PfC (d + 1) := by
  rintro w0 vs x deep L p w ⟨ve, vc, rfl, h1, h2⟩ hz hb0 hp hcell hd0 hd1 hL0 hL1
  have hz' : x.S.size + szRow (szX d) x.E + szRow (ClF (szX d)) x.C ≤ 1048576 := hz
  obtain ⟨a3, c3, rfl, hel⟩ := h1
  obtain ⟨a4, c4, rfl⟩ := h2.slice
  have HE : Hid (∀ (i : Nat) (e : Ex d), x.E[i]? = some e → ∃ b o vs, a3 = some ⟨b, o, none⟩ ∧ vs.length = 5 ∧ (∀ (j : Nat) (u : Value), vs[j]? = some u → w0.cell? ⟨b, o + i * 5 + j, none⟩ = some u) ∧ ExR d w0 vs e) := hel
  have hsE := sumP_all (szX d) x.E
  have hsC := sumP_all (ClF (szX d)) x.C
  by_cases h : L = 0 ∨ 10 < deep ∨ ¬ ShX true x.K x.N x.S x.E.length x.C.length
  · refine (patFormed_no x.K x.N x.S a3 _ c3 a4 _ c4 deep L p w (by omega) (by omega) (by omega) hcell hd0 hd1 hL0 hL1 h).mono ?_
    rintro e w' ⟨rfl, hb⟩
    refine ⟨false, rfl, iff_no fun hR => ?_, (fun e => Bool.noConfusion e), hb⟩
    obtain ⟨⟨r1, r2, _⟩, r4⟩ := hR
    have := cntX_pos d x
    rcases h with h | h | h
    · omega
    · omega
    · exact h r2
  have h1 : ¬ L = 0 := fun e => h (.inl e)
  have h2' : ¬ 10 < deep := fun e => h (.inr (.inl e))
  have H3 : Hid (ShX true x.K x.N x.S x.E.length x.C.length) := Classical.byContradiction fun e => h (.inr (.inr e))
  have h6 : ¬ 6 < x.K := by have := H3.out.2.1 rfl; omega
  have hC0 : x.C = [] := by
    have h7 := H3.out.1.2.1
    rcases h7 with h7 | h7
    · omega
    · exact List.length_eq_zero_iff.1 h7
  have HCN : Hid (cntX (d + 1) x = 1 + (x.E.map (cntX d)).sum) := by
    show 1 + (x.E.map (cntX d)).sum + (x.C.map (ClF (cntX d))).sum = _
    rw [hC0]
    simp
  have HFA : Hid (PrE d true (11 - deep) L x.E x.E.length → FineX (d + 1) true (11 - deep) L x) := fun q1 => by
    refine FineX.all (by omega) H3.out q1 ?_
    have := PrC.start (cs := x.C) q1
    rw [hC0] at this ⊢
    exact this
  have HPA : Hid (∀ (j : Nat) (e : Ex d), x.E[j]? = some e → FineX (d + 1) true (11 - deep) L x → FineX d true (11 - deep - 1) (L - 1 - sumP (cntX d) x.E j) e) := fun j e he hf => hf.part he
  obtain ⟨FN, hFN⟩ : ∃ F : Prop, FineX (d + 1) true (11 - deep) L x = F := ⟨_, rfl⟩
  obtain ⟨CN, hCN⟩ : ∃ F : Nat, cntX (d + 1) x = F := ⟨_, rfl⟩
  rw [hFN] at HPA HFA
  rw [hCN] at HCN
  rw [hFN, hCN]
  have HZE : Hid (szRow (szX d) x.E ≤ 1048576) := by show _ ≤ _; omega
  have H4 : Hid (Fit x.K x.N x.S x.E.length x.C.length) := H3.out.1
  obtain ⟨ES, hES⟩ : ∃ l, x.E = l := ⟨_, rfl⟩
  obtain ⟨l4, hCS⟩ : ∃ l, x.C.length = l := ⟨_, rfl⟩
  obtain ⟨K, hK⟩ : ∃ K, x.K = K := ⟨_, rfl⟩
  obtain ⟨N, hN⟩ : ∃ N, x.N = N := ⟨_, rfl⟩
  obtain ⟨S, hS⟩ : ∃ S, x.S = S := ⟨_, rfl⟩
  rw [hES] at HE HFA HPA HZE hsE HCN
  rw [hK, hN, hS, hES, hCS] at H4
  rw [hK] at h6
  rw [hK, hN, hS, hES, hCS]
  rw [hES, hS] at hz'
  rw [hCS] at hsC
  have hs0 : S.size ≤ 9223372036854775807 := by omega
  have hlE : ES.length ≤ 1048576 := by omega
  have hlC : l4 ≤ 1048576 := by omega
  clear hK hN hS hES hCS hFN hCN hz hz' hel hsE hsC h h2 hC0 H3
  obtain ⟨len, hl⟩ : ∃ l, ES.length = l := ⟨_, rfl⟩
  have HL : Hid (ES.length = len) := hl
  rw [hl] at HFA H4 hlE ⊢
  clear hl
  have hpz : p < w.heap.size := lt_row hcell
  have c0 : w.cell? ⟨p, 0, none⟩ = some (.int .i64 L) := by rw [cell_of_row w _ 0 _ _ _ hcell]; rfl
  have z0 : w.frozen? ⟨p, 0, none⟩ = false := frozen_of_row w _ _ _ _ hcell
  obtain ⟨W, hW⟩ : ∃ W, W = w.setCell ⟨p, 0, none⟩ (.int .i64 (L - 1)) := ⟨_, rfl⟩
  have hWz : W.heap.size = w.heap.size := by rw [hW]; simp
  have hWp : W.heap[p]? = some (.cells #[.int .i64 (L - 1)] 3 (0, 0)) := by rw [hW]; exact heap_setCell_same w p 0 _ _ _ hcell
  obtain ⟨V, hV⟩ : ∃ V, V = W.alloc (.cells #[.int .i64 K, .int .i64 N, .string S, .slice a3 len c3, .slice a4 l4 c4] 39) := ⟨_, rfl⟩
  have hA : Below W.heap.size W V := by rw [hV]; exact (Below.refl _ _).alloc (Nat.le_refl _) _
  have hT : Turned p w V := Turned.trans (by rw [hW]; exact Turned.of_set _ _ _ _) (Turned.of_below hA)
  have hVz : V.heap.size = w.heap.size + 1 := by rw [hV]; simp [hWz]
  have HVp : Hid (V.heap[p]? = some (.cells #[.int .i64 (L - 1)] 3 (0, 0))) := (hA.block _ (by omega)).trans hWp
  have hVt : V.heap[w.heap.size]? = some (.cells #[.int .i64 K, .int .i64 N, .string S, .slice a3 len c3, .slice a4 l4 c4] 39 (0, 0)) := by
    rw [hV, ← hWz]; exact heap_alloc_new W _
  have hC := exprFit_any K N S a3 len c3 a4 l4 c4 V hs0 (by omega) (by omega)
  rw [hV, hW] at hC
  have HV : Hid (V = _) := hV
  have HW : Hid (W = _) := hW
  have HI : Hid (PfC d) := H
  have hL2 : decide (L - 1 < 0) = false := by simp; omega
  clear hV hW H hWp hA
  go_enter Tryz.func84, Tryz.ntmps84
  go_wp2_with fail
  refine hC.mono ?_
  clear hC
  rintro e w1 ⟨b, rfl, hb, hB⟩
  rw [← HW.out, ← HV.out] at hB
  have HT1 : Hid (Turned p w w1) := hT.trans (Turned.of_below hB)
  have : b = true := hb.out.2 H4.out
  subst this
  have HP1 : Hid (w1.heap[p]? = some (.cells #[.int .i64 (L - 1)] 3 (0, 0))) := (hB.block _ (by omega)).trans HVp.out
  have HB1 : Hid (w1.heap[w.heap.size]? = _) := (hB.block _ (by omega)).trans hVt
  have b3 : w1.cell? ⟨w.heap.size, 3, none⟩ = some (.slice a3 len c3) := by rw [cell_of_row w1 _ 3 _ _ _ HB1.out]; rfl
  clear hb hB HW HV hT hVz hVt hWz c0 z0 HVp
  go_wp2_with fail
  go_loopw [35] (fun i wr => ∃ j : Nat, j ≤ len ∧ i = .int .i64 j ∧ Hid (Turned p w1 wr) ∧ Hid (wr.heap[p]? = some (.cells #[.int .i64 (L - 1 - sumP (cntX d) ES j)] 3 (0, 0))) ∧ Hid (PrE d true (11 - deep) L ES j)) (fun i _ => len - (intOf i).toNat)
  case atStart => exact ⟨0, Nat.zero_le _, rfl, Turned.refl _ _, by show _ = _; rw [HP1.out]; show _ = some (Obj.cells #[.int .i64 (L - 1 - ((0 : Nat) : Int))] 3 (0, 0)); rw [show L - 1 - ((0 : Nat) : Int) = L - 1 from by omega], PrE.start (by omega)⟩
  case round =>
    obtain ⟨j, hj, rfl, hTr, hPr, hR⟩ := hrel
    have hTw : Turned p w wr := HT1.out.trans hTr.out
    have hb1 : Below w0.heap.size w0 wr := hb0.trans (hTw.below hp hb0.size)
    have hpr : p < wr.heap.size := lt_row hPr.out
    by_cases hjl : j < len
    · obtain ⟨t, ht⟩ : ∃ t, ES[j]? = some t := ⟨_, List.getElem?_eq_getElem (by rw [HL.out]; exact hjl)⟩
      obtain ⟨b, o, vs, rfl, hvl, hcl, hre⟩ := HE.out j t ht
      obtain ⟨y0, y1, y2, ya3, yl3, yc3, ya4, yl4, yc4, rfl⟩ := ExR.shape _ _ _ _ hre
      have f0 : wr.cell? ⟨b, o + j * 5, none⟩ = some _ := cell_later hb1 (hcl 0 _ rfl)
      have f1 : wr.cell? ⟨b, o + j * 5 + 1, none⟩ = some _ := cell_later hb1 (hcl 1 _ rfl)
      have f2 : wr.cell? ⟨b, o + j * 5 + 2, none⟩ = some _ := cell_later hb1 (hcl 2 _ rfl)
      have f3 : wr.cell? ⟨b, o + j * 5 + 3, none⟩ = some _ := cell_later hb1 (hcl 3 _ rfl)
      have f4 : wr.cell? ⟨b, o + j * 5 + 4, none⟩ = some _ := cell_later hb1 (hcl 4 _ rfl)
      have hstep := sumP_succ (cntX d) ES j t ht
      have hle := hR.out.2
      have hC : ∀ X, Below wr.heap.size wr X → Calls Tryz.prog 84 #[.agg #[.int .i64 y0, .int .i64 y1, .string y2, .slice ya3 yl3 yc3, .slice ya4 yl4 yc4], .int .i64 (deep + 1), .pointer (some ⟨p, 0, none⟩)] X fun e w' => ∃ b : Bool, e = .returned (.bool b) ∧
          (b = true → Hid (w'.heap[p]? = some (.cells #[.int .i64 (L - 1 - sumP (cntX d) ES (j + 1))] 3 (0, 0))) ∧ Hid (PrE d true (11 - deep) L ES (j + 1))) ∧ (b = false → Hid (¬ FN)) ∧ Hid (Turned p w1 w') := fun X hX => by
        refine (HI.out w0 _ t (deep + 1) (L - 1 - sumP (cntX d) ES j) p X hre (Nat.le_trans (szRow_mem ht) HZE.out) (hb1.trans (hX.mono hb1.size)) hp ((hX.block _ hpr).trans hPr.out) (by omega) (by omega) (by omega) (by omega)).mono ?_
        rintro e w' ⟨b, rfl, q1, q2, q3⟩
        refine ⟨b, rfl, fun hb => ⟨?_, ?_⟩, fun hb => ?_, hTr.out.trans ((Turned.of_below hX).trans q3)⟩
        · show _ = _
          rw [q2.out hb]
          rw [show L - 1 - (sumP (cntX d) ES j : Int) - (cntX d t : Int) = L - 1 - (sumP (cntX d) ES (j + 1) : Int) from by omega]
        · refine PrE.step ht hR.out ?_
          have := q1.out.1 hb
          rw [show 11 - (deep + 1) = 11 - deep - 1 from by omega] at this
          exact this
        · intro hRR
          have := HPA.out j t ht hRR
          rw [show 11 - deep - 1 = 11 - (deep + 1) from by omega] at this
          rw [q1.out.2 this] at hb
          cases hb
      have hjl' : (j : Int) < (len : Int) := by omega
      clear hcl hre hvl ht hR hPr hTr hTw hstep hle
      go_wp2_with fail
      refine (hC _ ((Below.refl _ _).alloc (Nat.le_refl _) _)).mono ?_
      clear hC
      rintro e w' ⟨b, rfl, q1, q2, q3⟩
      cases b
      · have HN := q2 rfl
        have hT2 : Turned p w w' := HT1.out.trans q3.out
        clear q1 q2
        go_wp2_with fail
        go_ret
        exact ⟨false, rfl, iff_no HN.out, (fun e => Bool.noConfusion e), hT2⟩
      · obtain ⟨q4, q5⟩ := q1 rfl
        clear q1 q2
        go_wp2_with fail
        go_roundw
        case rel => exact ⟨j + 1, by omega, by go_num, q3, q4, q5⟩
        case measure => simp [intOf]; omega
    · obtain rfl : j = len := by omega
      have HR : Hid FN := HFA.out hR.out
      have HY : Hid (wr.heap[p]? = some (.cells #[.int .i64 (L - (CN : Nat))] 3 (0, 0))) := by
        have h8 := hPr.out
        rw [← HL.out, sumP_whole] at h8
        show _ = _
        rw [h8, show L - 1 - ((ES.map (cntX d)).sum : Int) = L - (CN : Int) from by have := HCN.out; omega]
      have hjl' : decide ((j : Int) < (j : Int)) = false := by simp
      clear hPr hTr hR
      go_wp2_with fail
      go_ret
      exact ⟨true, rfl, iff_yes HR.out, fun _ => HY.out, hTw⟩

theorem patFormed_any : ∀ d, PfC d := by
  intro d
  induction d with
  | zero => intro w0 vs e deep L p w h; exact h.elim
  | succ d ih => exact patFormed_of d ih

set_option maxHeartbeats 1000000 in
/-- The check of a pattern, whole. -/
theorem patFits_any (d : Nat) (w0 : World) (vs : List Value) (x : Ex d) (fp : List Nat) (deep L : Int) (p : Nat) (w : World) (hown : ExO d w0 vs x fp) (hnd : fp.Nodup) (hlt : ∀ g ∈ fp, g < w0.heap.size) (hz : szX d x ≤ 1048576) (hb0 : Below w0.heap.size w0 w) (hp : w0.heap.size ≤ p) (hcell : w.heap[p]? = some (.cells #[.int .i64 L] 3 (0, 0))) (hd0 : 1 ≤ deep) (hd1 : deep ≤ 1000) (hL0 : 0 ≤ L) (hL1 : L ≤ 1000000) :
    Calls Tryz.prog 74 #[.agg vs.toArray, .int .i64 deep, .pointer (some ⟨p, 0, none⟩)] w fun r w' => ∃ b : Bool, r = .returned (.bool b) ∧ Hid (b = true ↔ FineX d true (11 - deep) L x ∧ (vars d x).Nodup) ∧
      Hid (b = true → w'.heap[p]? = some (.cells #[.int .i64 (L - cntX d x)] 3 (0, 0))) ∧ Hid (Turned p w w') := by
  obtain ⟨k, n, s, a3, l3, c3, a4, l4, c4, rfl⟩ := ExO.shape d w0 vs x fp hown
  have hpz : p < w.heap.size := lt_row hcell
  obtain ⟨W, hW⟩ : ∃ W, W = w.alloc (.cells #[.int .i64 k, .int .i64 n, .string s, .slice a3 l3 c3, .slice a4 l4 c4] 39) := ⟨_, rfl⟩
  have hA : Below w.heap.size w W := by rw [hW]; exact (Below.refl _ _).alloc (Nat.le_refl _) _
  have hWz : W.heap.size = w.heap.size + 1 := by rw [hW]; simp
  have hB1 : W.heap[w.heap.size]? = some (.cells #[.int .i64 k, .int .i64 n, .string s, .slice a3 l3 c3, .slice a4 l4 c4] 39 (0, 0)) := by rw [hW]; exact heap_alloc_new w _
  have hC := patFormed_any d w0 _ x deep L p W (ExO.reads d _ _ _ _ hown) hz (hb0.trans (hA.mono hb0.size)) hp ((hA.block _ hpz).trans hcell) hd0 hd1 hL0 hL1
  rw [hW] at hC
  have HW : Hid (W = _) := hW
  have HO : Hid (∀ X, Below w0.heap.size w0 X → Calls Tryz.prog 86 #[.agg #[.int .i64 k, .int .i64 n, .string s, .slice a3 l3 c3, .slice a4 l4 c4]] X fun r w' => ∃ v, r = .returned v ∧ Hid (StrRow w' X.heap.size v (vars d x)) ∧ Below X.heap.size X w') := fun X hX => varsOf_any d _ x fp X (ExO.lasts d _ _ _ _ _ hown fun g hg => hX.block g (hlt g hg)) hnd (fun g hg => Nat.lt_of_lt_of_le (hlt g hg) hX.size) hz
  have HVL : Hid ((vars d x).length ≤ 1048577) := by have := vars_len d x; show _ ≤ _; omega
  have HB0 : Hid (Below w0.heap.size w0 w) := hb0
  clear hown hnd hlt hz hW hcell hb0
  go_enter Tryz.func74, Tryz.ntmps74
  go_wp2_with fail
  refine hC.mono ?_
  clear hC
  rintro e w1 ⟨b, rfl, q1, q2, hB⟩
  rw [← HW.out] at hB
  have HT1 : Hid (Turned p w w1) := (Turned.of_below hA).trans hB
  cases b
  · have HN : Hid (¬ (FineX d true (11 - deep) L x ∧ (vars d x).Nodup)) := fun h => by have := q1.out.2 h.1; cases this
    clear q1 q2 hA hB HW HO hB1 hWz
    go_wp2_with fail
    go_ret
    exact ⟨false, rfl, iff_no HN.out, (fun e => Bool.noConfusion e), HT1⟩
  · have HF : Hid (FineX d true (11 - deep) L x) := q1.out.1 rfl
    have HP1 : Hid (w1.heap[p]? = some (.cells #[.int .i64 (L - cntX d x)] 3 (0, 0))) := q2.out rfl
    have hrow := (hB.block w.heap.size (by omega) (by omega)).trans hB1
    have b0 : w1.cell? ⟨w.heap.size, 0, none⟩ = some (.int .i64 k) := by rw [cell_of_row w1 _ 0 _ _ _ hrow]; rfl
    have b1 : w1.cell? ⟨w.heap.size, 1, none⟩ = some (.int .i64 n) := by rw [cell_of_row w1 _ 1 _ _ _ hrow]; rfl
    have b2 : w1.cell? ⟨w.heap.size, 2, none⟩ = some (.string s) := by rw [cell_of_row w1 _ 2 _ _ _ hrow]; rfl
    have b3 : w1.cell? ⟨w.heap.size, 3, none⟩ = some (.slice a3 l3 c3) := by rw [cell_of_row w1 _ 3 _ _ _ hrow]; rfl
    have b4 : w1.cell? ⟨w.heap.size, 4, none⟩ = some (.slice a4 l4 c4) := by rw [cell_of_row w1 _ 4 _ _ _ hrow]; rfl
    have hV := HO.out w1 (HB0.out.trans (HT1.out.below hp HB0.out.size))
    clear q1 q2 hA hB HW hB1 hWz hrow HO
    go_wp2_with fail
    refine hV.mono ?_
    clear hV b0 b1 b2 b3 b4
    rintro e w2 ⟨v, rfl, HRW, hB2⟩
    obtain ⟨va, vl, vcp, rfl⟩ := row_slice HRW.out
    have hO := noneTwice_any _ (vars d x) w1.heap.size w2 HRW.out HVL.out hB2.size
    go_wp2_with fail
    refine hO.mono ?_
    clear hO
    rintro e w3 ⟨b, rfl, HB, hB3⟩
    have HF2 : Hid (b = true ↔ FineX d true (11 - deep) L x ∧ (vars d x).Nodup) := ⟨fun h => ⟨HF.out, HB.out.1 h⟩, fun h => HB.out.2 h.2⟩
    have hbb : Below w1.heap.size w1 w3 := hB2.trans hB3
    have HT3 : Hid (Turned p w w3) := HT1.out.trans (Turned.of_below hbb)
    have HP3 : Hid (b = true → w3.heap[p]? = some (.cells #[.int .i64 (L - cntX d x)] 3 (0, 0))) := fun _ => (hbb.block _ (lt_row HP1.out)).trans HP1.out
    clear HB hB3 hB2 HRW HF HT1 HP1 hbb
    go_wp2_with fail
    go_ret
    exact ⟨b, rfl, HF2, HP3, HT3⟩

end Go.Proofs.YtgeedoeaepcmcaaGreatDoor

/- The program's look at an expression in all its storeys. -/
namespace Go.Proofs.YtgeedoeaepcmcaaGreatDoor
open Go.RowKit
set_option linter.unusedVariables false

theorem ownrow_elem {α : Type} {k : Nat} {T : TypeId} {O : World → List Value → α → List Nat → Prop} {w : World} {a : Option Addr} {n c : Nat} {xs : List α} {fp : List Nat} (h : OwnRow k T O w (.slice a n c) xs fp) {i : Nat} {x : α} (hx : xs[i]? = some x) :
    ∃ b o vs f, a = some ⟨b, o, none⟩ ∧ vs.length = k ∧ (∀ (j : Nat) (u : Value), vs[j]? = some u → w.cell? ⟨b, o + i * k + j, none⟩ = some u) ∧ O w vs x f ∧ f.Sublist fp := by
  rcases h with ⟨rfl, _⟩ | ⟨g, c', cur, fps, h1, h2, h3, rfl, h4⟩
  · simp at hx
  · simp only [Value.slice.injEq] at h1
    obtain ⟨rfl, _, _⟩ := h1
    obtain ⟨vs, f, e1, e2, e3, e4⟩ := h4 i x hx
    refine ⟨g, 0, vs, f, rfl, e2, fun j u hu => ?_, e4, (List.sublist_flatten_of_mem (List.mem_of_getElem? e1)).cons _⟩
    rw [Nat.zero_add, cell_of_row w _ _ _ _ _ h2]
    exact e3 j u hu
theorem ownrow_len {α : Type} {k : Nat} {T : TypeId} {O : World → List Value → α → List Nat → Prop} {w : World} {v : Value} {xs : List α} {fp : List Nat} (h : OwnRow k T O w v xs fp) : ∃ a c, v = .slice a xs.length c := by
  rcases h with ⟨rfl, _, a, c, e⟩ | ⟨g, c', cur, fps, h1, _⟩
  · exact ⟨a, c, e⟩
  · exact ⟨_, _, h1⟩

/-- The contract of the check of an expression, at a depth, with a count of how many may be left. -/
def XfC (d : Nat) : Prop := ∀ (w0 : World) (vs : List Value) (e : Ex d) (fp : List Nat) (deep L : Int) (p : Nat) (w : World), ExO d w0 vs e fp → fp.Nodup → (∀ g ∈ fp, g < w0.heap.size) → szX d e ≤ 1048576 → Below w0.heap.size w0 w → w0.heap.size ≤ p → w.heap[p]? = some (.cells #[.int .i64 L] 3 (0, 0)) → 1 ≤ deep → deep ≤ 1000 → 0 ≤ L → L ≤ 1000000 →
  Calls Tryz.prog 61 #[.agg vs.toArray, .int .i64 deep, .pointer (some ⟨p, 0, none⟩)] w fun r w' => ∃ b : Bool, r = .returned (.bool b) ∧ Hid (b = true ↔ FineX d false (11 - deep) L e) ∧
    Hid (b = true → w'.heap[p]? = some (.cells #[.int .i64 (L - cntX d e)] 3 (0, 0))) ∧ Hid (Turned p w w')

set_option maxHeartbeats 1000000 in
/-- What is refused at once. -/
theorem exprFits_no (k n : Int) (s : ByteArray) (a3 : Option Addr) (e c3 : Nat) (a4 : Option Addr) (c c4 : Nat) (deep L : Int) (p : Nat) (w : World) (hs : s.size ≤ 9223372036854775807) (he : e ≤ 9223372036854775807) (hc : c ≤ 9223372036854775807)
    (hcell : w.heap[p]? = some (.cells #[.int .i64 L] 3 (0, 0))) (hd0 : 1 ≤ deep) (hd1 : deep ≤ 1000) (hL0 : 0 ≤ L) (hL1 : L ≤ 1000000) (h : L = 0 ∨ 10 < deep ∨ ¬ ShX false k n s e c) :
    Calls Tryz.prog 61 #[.agg #[.int .i64 k, .int .i64 n, .string s, .slice a3 e c3, .slice a4 c c4], .int .i64 deep, .pointer (some ⟨p, 0, none⟩)] w fun e w' => e = .returned (.bool false) ∧ Turned p w w' := by
  have hpz : p < w.heap.size := lt_row hcell
  have c0 : w.cell? ⟨p, 0, none⟩ = some (.int .i64 L) := by rw [cell_of_row w _ 0 _ _ _ hcell]; rfl
  have z0 : w.frozen? ⟨p, 0, none⟩ = false := frozen_of_row w _ _ _ _ hcell
  have hT0 : ∀ x o1, Turned p w ((w.setCell ⟨p, 0, none⟩ (.int .i64 x)).alloc o1) := fun x o1 => (Turned.of_set _ _ _ _).trans (Turned.of_below ((Below.refl _ _).alloc (Nat.le_refl _) _))
  by_cases h1 : L = 0
  · subst h1
    have hT := hT0 (-1) (.cells #[.int .i64 k, .int .i64 n, .string s, .slice a3 e c3, .slice a4 c c4] 39)
    clear h
    go_enter Tryz.func61, Tryz.ntmps61
    go_wp2_with fail
    go_ret
    exact ⟨rfl, hT⟩
  · have hL2 : decide (L - 1 < 0) = false := by simp; omega
    by_cases h2 : 10 < deep
    · have hT := hT0 (L - 1) (.cells #[.int .i64 k, .int .i64 n, .string s, .slice a3 e c3, .slice a4 c c4] 39)
      clear h h1
      go_enter Tryz.func61, Tryz.ntmps61
      go_wp2_with fail
      go_ret
      exact ⟨rfl, hT⟩
    · have h3 : Hid (¬ ShX false k n s e c) := by rcases h with h | h | h; exact absurd h h1; exact absurd h h2; exact h
      obtain ⟨W, hW⟩ : ∃ W, W = (w.setCell ⟨p, 0, none⟩ (.int .i64 (L - 1))).alloc (.cells #[.int .i64 k, .int .i64 n, .string s, .slice a3 e c3, .slice a4 c c4] 39) := ⟨_, rfl⟩
      have hT : Turned p w W := by rw [hW]; exact hT0 (L - 1) (.cells #[.int .i64 k, .int .i64 n, .string s, .slice a3 e c3, .slice a4 c c4] 39)
      have hB1 : W.heap[w.heap.size]? = some (.cells #[.int .i64 k, .int .i64 n, .string s, .slice a3 e c3, .slice a4 c c4] 39 (0, 0)) := by
        rw [hW]; have := heap_alloc_new (w.setCell ⟨p, 0, none⟩ (.int .i64 (L - 1))) (.cells #[.int .i64 k, .int .i64 n, .string s, .slice a3 e c3, .slice a4 c c4] 39); simpa using this
      have hC := exprFit_any k n s a3 e c3 a4 c c4 W hs he hc
      rw [hW] at hC
      have HT : Hid (Turned p w _) := hT
      have HW : Hid (W = _) := hW
      clear h h1 hT hT0 hW
      go_enter Tryz.func61, Tryz.ntmps61
      go_wp2_with fail
      refine hC.mono ?_
      clear hC
      rintro e w1 ⟨b, rfl, hb, hB⟩
      rw [← HW.out] at hB
      have hb2 : Turned p w w1 := HT.out.trans (Turned.of_below hB)
      cases b
      · clear hb hB h3 HT HW
        go_wp2_with fail
        go_ret
        exact ⟨rfl, hb2⟩
      · have h4 : k = 3 ∧ s.toList = [95] := Classical.byContradiction fun hn => h3.out ⟨hb.out.1 rfl, (fun e => Bool.noConfusion e), fun _ e3 e4 => hn ⟨e3, e4⟩⟩
        obtain ⟨rfl, h5⟩ := h4
        have hrow := (hB.block _ (lt_row hB1)).trans hB1
        have b0 : w1.cell? ⟨w.heap.size, 0, none⟩ = some (.int .i64 3) := by rw [cell_of_row w1 _ 0 _ _ _ hrow]; rfl
        have b2 : w1.cell? ⟨w.heap.size, 2, none⟩ = some (.string s) := by rw [cell_of_row w1 _ 2 _ _ _ hrow]; rfl
        have h6 : (s.toList == [95]) = true := by simp [h5]
        clear hb hB h3 HT HW hrow hB1 h5
        go_wp2_with fail
        go_ret
        exact ⟨rfl, hb2⟩

set_option maxRecDepth 100000 in
set_option maxHeartbeats 4000000 in
theorem exprFits_of (d : Nat) (H : XfC d) : XfC (d + 1) := by
  rintro w0 vs x fp deep L p w ⟨ve, vc, fe, fc, rfl, rfl, h1, h2⟩ hnd hlt hz hb0 hp hcell hd0 hd1 hL0 hL1
  have hz' : x.S.size + szRow (szX d) x.E + szRow (ClF (szX d)) x.C ≤ 1048576 := hz
  obtain ⟨a3, c3, rfl⟩ := ownrow_len h1
  obtain ⟨a4, c4, rfl⟩ := ownrow_len h2
  have HE : Hid (∀ (i : Nat) (e : Ex d), x.E[i]? = some e → ∃ b o vs f, a3 = some ⟨b, o, none⟩ ∧ vs.length = 5 ∧ (∀ (j : Nat) (u : Value), vs[j]? = some u → w0.cell? ⟨b, o + i * 5 + j, none⟩ = some u) ∧ ExO d w0 vs e f ∧ f.Nodup ∧ ∀ g ∈ f, g < w0.heap.size) := fun i e he => by
    obtain ⟨b, o, vs, f, q1, q2, q3, q4, q5⟩ := ownrow_elem h1 he
    have q6 : f.Sublist (fe ++ fc) := q5.trans (List.sublist_append_left _ _)
    exact ⟨b, o, vs, f, q1, q2, q3, q4, hnd.sublist q6, fun g hg => hlt g (q6.subset hg)⟩
  have HCL : Hid (∀ (i : Nat) (e : Ex d × Ex d), x.C[i]? = some e → ∃ b o vs us f g, a4 = some ⟨b, o, none⟩ ∧ (vs ++ us).length = 10 ∧ (∀ (j : Nat) (u : Value), (vs ++ us)[j]? = some u → w0.cell? ⟨b, o + i * 10 + j, none⟩ = some u) ∧ (ExO d w0 vs e.1 f ∧ f.Nodup ∧ ∀ g ∈ f, g < w0.heap.size) ∧ (ExO d w0 us e.2 g ∧ g.Nodup ∧ ∀ h ∈ g, h < w0.heap.size)) := fun i e he => by
    obtain ⟨b, o, vs, f, q1, q2, q3, ⟨ps, xs, f1, f2, rfl, rfl, q4, q4'⟩, q5⟩ := ownrow_elem h2 he
    have q6 : (f1 ++ f2).Sublist (fe ++ fc) := q5.trans (List.sublist_append_right _ _)
    have q7 : f1.Sublist (fe ++ fc) := (List.sublist_append_left _ _).trans q6
    have q8 : f2.Sublist (fe ++ fc) := (List.sublist_append_right _ _).trans q6
    exact ⟨b, o, ps, xs, f1, f2, q1, q2, q3, ⟨q4, hnd.sublist q7, fun g hg => hlt g (q7.subset hg)⟩, q4', hnd.sublist q8, fun g hg => hlt g (q8.subset hg)⟩
  have hsE := sumP_all (szX d) x.E
  have hsC := sumP_all (ClF (szX d)) x.C
  by_cases h : L = 0 ∨ 10 < deep ∨ ¬ ShX false x.K x.N x.S x.E.length x.C.length
  · refine (exprFits_no x.K x.N x.S a3 _ c3 a4 _ c4 deep L p w (by omega) (by omega) (by omega) hcell hd0 hd1 hL0 hL1 h).mono ?_
    rintro e w' ⟨rfl, hb⟩
    refine ⟨false, rfl, iff_no fun hR => ?_, (fun e => Bool.noConfusion e), hb⟩
    obtain ⟨⟨r1, r2, _⟩, r4⟩ := hR
    have := cntX_pos d x
    rcases h with h | h | h
    · omega
    · omega
    · exact h r2
  have h1' : ¬ L = 0 := fun e => h (.inl e)
  have h2' : ¬ 10 < deep := fun e => h (.inr (.inl e))
  have H3 : Hid (ShX false x.K x.N x.S x.E.length x.C.length) := Classical.byContradiction fun e => h (.inr (.inr e))
  have HCN : Hid (cntX (d + 1) x = 1 + (x.E.map (cntX d)).sum + (x.C.map (ClF (cntX d))).sum) := rfl
  have HFA : Hid (PrE d false (11 - deep) L x.E x.E.length → PrC d (11 - deep) L (x.E.map (cntX d)).sum x.C x.C.length → FineX (d + 1) false (11 - deep) L x) := fun q1 q2 => FineX.all (by omega) H3.out q1 q2
  have HPA : Hid (∀ (j : Nat) (e : Ex d), x.E[j]? = some e → FineX (d + 1) false (11 - deep) L x → FineX d false (11 - deep - 1) (L - 1 - sumP (cntX d) x.E j) e) := fun j e he hf => hf.part he
  have HPC : Hid (∀ (j : Nat) (c : Ex d × Ex d), x.C[j]? = some c → FineX (d + 1) false (11 - deep) L x → (vars d c.1).Nodup ∧ FineX d true (11 - deep - 1) (L - 1 - (x.E.map (cntX d)).sum - sumP (ClF (cntX d)) x.C j) c.1 ∧ FineX d false (11 - deep - 1) (L - 1 - (x.E.map (cntX d)).sum - sumP (ClF (cntX d)) x.C j - cntX d c.1) c.2) := fun j c hc hf => hf.clause hc
  obtain ⟨FN, hFN⟩ : ∃ F : Prop, FineX (d + 1) false (11 - deep) L x = F := ⟨_, rfl⟩
  obtain ⟨CN, hCN⟩ : ∃ F : Nat, cntX (d + 1) x = F := ⟨_, rfl⟩
  rw [hFN] at HPA HFA HPC
  rw [hCN] at HCN
  rw [hFN, hCN]
  have HZE : Hid (szRow (szX d) x.E ≤ 1048576) := by show _ ≤ _; omega
  have HZC : Hid (szRow (ClF (szX d)) x.C ≤ 1048576) := by show _ ≤ _; omega
  obtain ⟨ES, hES⟩ : ∃ l, x.E = l := ⟨_, rfl⟩
  obtain ⟨CS, hCS⟩ : ∃ l, x.C = l := ⟨_, rfl⟩
  obtain ⟨K, hK⟩ : ∃ K, x.K = K := ⟨_, rfl⟩
  obtain ⟨N, hN⟩ : ∃ N, x.N = N := ⟨_, rfl⟩
  obtain ⟨S, hS⟩ : ∃ S, x.S = S := ⟨_, rfl⟩
  rw [hES] at HE HFA HPA HPC HZE hsE HCN
  rw [hCS] at HCL HFA HPC HZC hsC HCN
  rw [hK, hN, hS, hES, hCS] at H3
  rw [hK, hN, hS, hES, hCS]
  rw [hES, hCS, hS] at hz'
  have hs0 : S.size ≤ 9223372036854775807 := by omega
  have hlE : ES.length ≤ 1048576 := by omega
  have hlC : CS.length ≤ 1048576 := by omega
  clear hK hN hS hES hCS hFN hCN hz hz' hsE hsC h h1 h2 hnd hlt
  obtain ⟨len, hl⟩ : ∃ l, ES.length = l := ⟨_, rfl⟩
  obtain ⟨l4, hl4⟩ : ∃ l, CS.length = l := ⟨_, rfl⟩
  have HL : Hid (ES.length = len) := hl
  have HL4 : Hid (CS.length = l4) := hl4
  obtain ⟨M, hM⟩ : ∃ m, (ES.map (cntX d)).sum = m := ⟨_, rfl⟩
  have HM : Hid ((ES.map (cntX d)).sum = M) := hM
  rw [hl, hl4, hM] at HFA
  rw [hM] at HPC HCN
  rw [hl, hl4] at H3
  rw [hl] at hlE ⊢
  rw [hl4] at hlC ⊢
  clear hl hl4 hM
  have hpz : p < w.heap.size := lt_row hcell
  have c0 : w.cell? ⟨p, 0, none⟩ = some (.int .i64 L) := by rw [cell_of_row w _ 0 _ _ _ hcell]; rfl
  have z0 : w.frozen? ⟨p, 0, none⟩ = false := frozen_of_row w _ _ _ _ hcell
  obtain ⟨W, hW⟩ : ∃ W, W = w.setCell ⟨p, 0, none⟩ (.int .i64 (L - 1)) := ⟨_, rfl⟩
  have hWz : W.heap.size = w.heap.size := by rw [hW]; simp
  have hWp : W.heap[p]? = some (.cells #[.int .i64 (L - 1)] 3 (0, 0)) := by rw [hW]; exact heap_setCell_same w p 0 _ _ _ hcell
  obtain ⟨V, hV⟩ : ∃ V, V = W.alloc (.cells #[.int .i64 K, .int .i64 N, .string S, .slice a3 len c3, .slice a4 l4 c4] 39) := ⟨_, rfl⟩
  have hA : Below W.heap.size W V := by rw [hV]; exact (Below.refl _ _).alloc (Nat.le_refl _) _
  have hT : Turned p w V := Turned.trans (by rw [hW]; exact Turned.of_set _ _ _ _) (Turned.of_below hA)
  have hVz : V.heap.size = w.heap.size + 1 := by rw [hV]; simp [hWz]
  have HVp : Hid (V.heap[p]? = some (.cells #[.int .i64 (L - 1)] 3 (0, 0))) := (hA.block _ (by omega)).trans hWp
  have hVt : V.heap[w.heap.size]? = some (.cells #[.int .i64 K, .int .i64 N, .string S, .slice a3 len c3, .slice a4 l4 c4] 39 (0, 0)) := by
    rw [hV, ← hWz]; exact heap_alloc_new W _
  have hC := exprFit_any K N S a3 len c3 a4 l4 c4 V hs0 (by omega) (by omega)
  rw [hV, hW] at hC
  have HV : Hid (V = _) := hV
  have HW : Hid (W = _) := hW
  have HI : Hid (XfC d) := H
  have hL2 : decide (L - 1 < 0) = false := by simp; omega
  have HB0 : Hid (Below w0.heap.size w0 w) := hb0
  clear hV hW H hWp hA hb0
  go_enter Tryz.func61, Tryz.ntmps61
  go_wp2_with fail
  refine hC.mono ?_
  clear hC
  rintro e w1 ⟨b, rfl, hb, hB⟩
  rw [← HW.out, ← HV.out] at hB
  have HT1 : Hid (Turned p w w1) := hT.trans (Turned.of_below hB)
  have : b = true := hb.out.2 H3.out.1
  subst this
  have HP1 : Hid (w1.heap[p]? = some (.cells #[.int .i64 (L - 1)] 3 (0, 0))) := (hB.block _ (by omega)).trans HVp.out
  have HB1 : Hid (w1.heap[w.heap.size]? = _) := (hB.block _ (by omega)).trans hVt
  have b0 : w1.cell? ⟨w.heap.size, 0, none⟩ = some (.int .i64 K) := by rw [cell_of_row w1 _ 0 _ _ _ HB1.out]; rfl
  have b2 : w1.cell? ⟨w.heap.size, 2, none⟩ = some (.string S) := by rw [cell_of_row w1 _ 2 _ _ _ HB1.out]; rfl
  have b3 : w1.cell? ⟨w.heap.size, 3, none⟩ = some (.slice a3 len c3) := by rw [cell_of_row w1 _ 3 _ _ _ HB1.out]; rfl
  have HWZ : Hid (w.heap.size < w1.heap.size ∧ w.heap.size ≠ p) := ⟨lt_row HB1.out, by omega⟩
  clear hb hB HW HV hT hVz hVt hWz c0 z0 HVp
  by_cases hK3 : K = 3
  · subst hK3
    obtain ⟨_, hl4, _, hl3⟩ := (fit3 _ _ _ _).1 H3.out.1
    have hS5 : (S.toList == [95]) = false := by simpa using H3.out.2.2 rfl rfl
    subst hl3 hl4
    have HM0 : Hid (M = 0) := by
      show _ = _
      rw [← HM.out, List.length_eq_zero_iff.1 HL.out]
      rfl
    have hC0 : CS = [] := List.length_eq_zero_iff.1 HL4.out
    have HR : Hid FN := by
      have q1 : PrE d false (11 - deep) L ES 0 := PrE.start (by omega)
      refine HFA.out q1 ⟨fun x hx => by simp at hx, ?_⟩
      rw [HM0.out]
      show ((1 + 0 + 0 : Nat) : Int) ≤ L
      omega
    have HY : Hid (w1.heap[p]? = some (.cells #[.int .i64 (L - (CN : Nat))] 3 (0, 0))) := by
      show _ = _
      rw [HP1.out]
      have h9 := HCN.out
      rw [HM0.out, hC0] at h9
      rw [h9]
      rfl
    have b4 : w1.cell? ⟨w.heap.size, 4, none⟩ = some (.slice a4 0 c4) := by rw [cell_of_row w1 _ 4 _ _ _ HB1.out]; rfl
    clear HE HCL HFA HPA HPC HI hC0
    go_wp2_with fail
    refine wp_loop_rounds 1 ?_
    rw [rounds_succ]
    go_wp2_with fail
    refine wp_loop_rounds 1 ?_
    rw [rounds_succ]
    go_wp2_with fail
    go_ret
    exact ⟨true, rfl, iff_yes HR.out, fun _ => HY.out, HT1⟩
  have hK4 : (K == 3) = false := by simpa using hK3
  clear hK3 b2
  go_wp2_with fail
  clear b0
  go_loopw [42] (fun i wr => ∃ j : Nat, j ≤ len ∧ i = .int .i64 j ∧ Hid (Turned p w1 wr) ∧ Hid (wr.heap[p]? = some (.cells #[.int .i64 (L - 1 - sumP (cntX d) ES j)] 3 (0, 0))) ∧ Hid (PrE d false (11 - deep) L ES j)) (fun i _ => len - (intOf i).toNat)
  case atStart => exact ⟨0, Nat.zero_le _, rfl, Turned.refl _ _, by show _ = _; rw [HP1.out]; show _ = some (Obj.cells #[.int .i64 (L - 1 - ((0 : Nat) : Int))] 3 (0, 0)); rw [show L - 1 - ((0 : Nat) : Int) = L - 1 from by omega], PrE.start (by omega)⟩
  case round =>
    clear b3
    obtain ⟨j, hj, rfl, hTr, hPr, hR⟩ := hrel
    have hTw : Turned p w wr := HT1.out.trans hTr.out
    have hb1 : Below w0.heap.size w0 wr := HB0.out.trans (hTw.below hp HB0.out.size)
    have hpr : p < wr.heap.size := lt_row hPr.out
    by_cases hjl : j < len
    · obtain ⟨t, ht⟩ : ∃ t, ES[j]? = some t := ⟨_, List.getElem?_eq_getElem (by rw [HL.out]; exact hjl)⟩
      obtain ⟨b, o, vs, f, rfl, hvl, hcl, hre, hfn, hfl⟩ := HE.out j t ht
      obtain ⟨y0, y1, y2, ya3, yl3, yc3, ya4, yl4, yc4, rfl⟩ := ExO.shape _ _ _ _ _ hre
      have f0 : wr.cell? ⟨b, o + j * 5, none⟩ = some _ := cell_later hb1 (hcl 0 _ rfl)
      have f1 : wr.cell? ⟨b, o + j * 5 + 1, none⟩ = some _ := cell_later hb1 (hcl 1 _ rfl)
      have f2 : wr.cell? ⟨b, o + j * 5 + 2, none⟩ = some _ := cell_later hb1 (hcl 2 _ rfl)
      have f3 : wr.cell? ⟨b, o + j * 5 + 3, none⟩ = some _ := cell_later hb1 (hcl 3 _ rfl)
      have f4 : wr.cell? ⟨b, o + j * 5 + 4, none⟩ = some _ := cell_later hb1 (hcl 4 _ rfl)
      have hstep := sumP_succ (cntX d) ES j t ht
      have hle := hR.out.2
      have hC : ∀ X, Below wr.heap.size wr X → Calls Tryz.prog 61 #[.agg #[.int .i64 y0, .int .i64 y1, .string y2, .slice ya3 yl3 yc3, .slice ya4 yl4 yc4], .int .i64 (deep + 1), .pointer (some ⟨p, 0, none⟩)] X fun e w' => ∃ b : Bool, e = .returned (.bool b) ∧
          (b = true → Hid (w'.heap[p]? = some (.cells #[.int .i64 (L - 1 - sumP (cntX d) ES (j + 1))] 3 (0, 0))) ∧ Hid (PrE d false (11 - deep) L ES (j + 1))) ∧ (b = false → Hid (¬ FN)) ∧ Hid (Turned p w1 w') := fun X hX => by
        refine (HI.out w0 _ t f (deep + 1) (L - 1 - sumP (cntX d) ES j) p X hre hfn hfl (Nat.le_trans (szRow_mem ht) HZE.out) (hb1.trans (hX.mono hb1.size)) hp ((hX.block _ hpr).trans hPr.out) (by omega) (by omega) (by omega) (by omega)).mono ?_
        rintro e w' ⟨b, rfl, q1, q2, q3⟩
        refine ⟨b, rfl, fun hb => ⟨?_, ?_⟩, fun hb => ?_, hTr.out.trans ((Turned.of_below hX).trans q3.out)⟩
        · show _ = _
          rw [q2.out hb]
          rw [show L - 1 - (sumP (cntX d) ES j : Int) - (cntX d t : Int) = L - 1 - (sumP (cntX d) ES (j + 1) : Int) from by omega]
        · refine PrE.step ht hR.out ?_
          have := q1.out.1 hb
          rw [show 11 - (deep + 1) = 11 - deep - 1 from by omega] at this
          exact this
        · intro hRR
          have := HPA.out j t ht hRR
          rw [show 11 - deep - 1 = 11 - (deep + 1) from by omega] at this
          rw [q1.out.2 this] at hb
          cases hb
      have hjl' : (j : Int) < (len : Int) := by omega
      clear hcl hre hvl ht hR hPr hTr hTw hstep hle hfn hfl
      go_wp2_with fail
      refine (hC _ ((Below.refl _ _).alloc (Nat.le_refl _) _)).mono ?_
      clear hC
      rintro e w' ⟨b, rfl, q1, q2, q3⟩
      cases b
      · have HN := q2 rfl
        have hT2 : Hid (Turned p w w') := HT1.out.trans q3.out
        clear q1 q2
        go_wp2_with fail
        go_ret
        exact ⟨false, rfl, iff_no HN.out, (fun e => Bool.noConfusion e), hT2⟩
      · obtain ⟨q4, q5⟩ := q1 rfl
        clear q1 q2
        go_wp2_with fail
        go_roundw
        case rel => exact ⟨j + 1, by omega, by go_num, q3, q4, q5⟩
        case measure => simp [intOf]; omega
    · obtain rfl : j = len := by omega
      have HEE : Hid (PrE d false (11 - deep) L ES j) := hR
      have HPM : Hid (wr.heap[p]? = some (.cells #[.int .i64 (L - 1 - M - sumP (ClF (cntX d)) CS 0)] 3 (0, 0))) := by
        have h8 := hPr.out
        rw [← HL.out, sumP_whole, HM.out] at h8
        show _ = _
        rw [h8]
        show _ = some (Obj.cells #[.int .i64 (L - 1 - M - ((0 : Nat) : Int))] 3 (0, 0))
        rw [show L - 1 - (M : Int) - ((0 : Nat) : Int) = L - 1 - (M : Int) from by omega]
      have HC0 : Hid (PrC d (11 - deep) L M CS 0) := by
        have h8 := hR.out
        rw [← HL.out] at h8
        rw [← HM.out]
        exact PrC.start h8
      have hrw := (hTr.out.block _ HWZ.out.1 HWZ.out.2).trans HB1.out
      have b4 : wr.cell? ⟨w.heap.size, 4, none⟩ = some (.slice a4 l4 c4) := by rw [cell_of_row wr _ 4 _ _ _ hrw]; rfl
      have hjl' : decide ((j : Int) < (j : Int)) = false := by simp
      clear hPr hR hTw hb1 hpr hrw
      go_wp2_with fail
      clear b4 hjl hjl' HPA HE
      go_loopw [56] (fun i wr => ∃ j : Nat, j ≤ l4 ∧ i = .int .i64 j ∧ Hid (Turned p w1 wr) ∧ Hid (wr.heap[p]? = some (.cells #[.int .i64 (L - 1 - M - sumP (ClF (cntX d)) CS j)] 3 (0, 0))) ∧ Hid (PrC d (11 - deep) L M CS j)) (fun i _ => l4 - (intOf i).toNat)
      case atStart => exact ⟨0, Nat.zero_le _, rfl, hTr, HPM, HC0⟩
      case round =>
        clear hTr HPM HC0
        rename World => wq
        obtain ⟨i, hi, rfl, hTr, hPr, hR⟩ := hrel
        have hTw : Turned p w wq := HT1.out.trans hTr.out
        have hb1 : Below w0.heap.size w0 wq := HB0.out.trans (hTw.below hp HB0.out.size)
        have hpr : p < wq.heap.size := lt_row hPr.out
        by_cases hil : i < l4
        · obtain ⟨⟨t, u⟩, ht⟩ : ∃ t, CS[i]? = some t := ⟨_, List.getElem?_eq_getElem (by rw [HL4.out]; exact hil)⟩
          obtain ⟨b, o, vs, us, f, g, rfl, hvl, hcl, ⟨hre, hfn, hfl⟩, hru, hgn, hgl⟩ := HCL.out i (t, u) ht
          obtain ⟨y0, y1, y2, ya3, yl3, yc3, ya4, yl4, yc4, rfl⟩ := ExO.shape _ _ _ _ _ hre
          obtain ⟨z0, z1, z2, za3, zl3, zc3, za4, zl4, zc4, rfl⟩ := ExO.shape _ _ _ _ _ hru
          have f0 : wq.cell? ⟨b, o + i * 10, none⟩ = some _ := cell_later hb1 (hcl 0 _ rfl)
          have f1 : wq.cell? ⟨b, o + i * 10 + 1, none⟩ = some _ := cell_later hb1 (hcl 1 _ rfl)
          have f2 : wq.cell? ⟨b, o + i * 10 + 2, none⟩ = some _ := cell_later hb1 (hcl 2 _ rfl)
          have f3 : wq.cell? ⟨b, o + i * 10 + 3, none⟩ = some _ := cell_later hb1 (hcl 3 _ rfl)
          have f4 : wq.cell? ⟨b, o + i * 10 + 4, none⟩ = some _ := cell_later hb1 (hcl 4 _ rfl)
          have f5 : wq.cell? ⟨b, o + i * 10 + 5, none⟩ = some _ := cell_later hb1 (hcl 5 _ rfl)
          have f6 : wq.cell? ⟨b, o + i * 10 + 6, none⟩ = some _ := cell_later hb1 (hcl 6 _ rfl)
          have f7 : wq.cell? ⟨b, o + i * 10 + 7, none⟩ = some _ := cell_later hb1 (hcl 7 _ rfl)
          have f8 : wq.cell? ⟨b, o + i * 10 + 8, none⟩ = some _ := cell_later hb1 (hcl 8 _ rfl)
          have f9 : wq.cell? ⟨b, o + i * 10 + 9, none⟩ = some _ := cell_later hb1 (hcl 9 _ rfl)
          have HST : Hid (sumP (ClF (cntX d)) CS (i + 1) = sumP (ClF (cntX d)) CS i + (cntX d t + cntX d u)) := sumP_succ (ClF (cntX d)) CS i _ ht
          have HLE := hR.out.2
          have HZP : Hid (szX d t ≤ 1048576 ∧ szX d u ≤ 1048576) := by
            have h5 : ClF (szX d) (t, u) ≤ 1048576 := Nat.le_trans (szRow_mem ht) HZC.out
            have h6 : ClF (szX d) (t, u) = szX d t + szX d u := rfl
            exact ⟨by omega, by omega⟩
          obtain ⟨X, hX⟩ : ∃ X, X = wq.alloc (.cells #[.int .i64 y0, .int .i64 y1, .string y2, .slice ya3 yl3 yc3, .slice ya4 yl4 yc4, .int .i64 z0, .int .i64 z1, .string z2, .slice za3 zl3 zc3, .slice za4 zl4 zc4] 67) := ⟨_, rfl⟩
          have hXb : Below wq.heap.size wq X := by rw [hX]; exact (Below.refl _ _).alloc (Nat.le_refl _) _
          have hXn : X.heap[wq.heap.size]? = some (.cells #[.int .i64 y0, .int .i64 y1, .string y2, .slice ya3 yl3 yc3, .slice ya4 yl4 yc4, .int .i64 z0, .int .i64 z1, .string z2, .slice za3 zl3 zc3, .slice za4 zl4 zc4] 67 (0, 0)) := by rw [hX]; exact heap_alloc_new wq _
          have hC := patFits_any d w0 _ t f (deep + 1) (L - 1 - M - sumP (ClF (cntX d)) CS i) p X hre hfn hfl HZP.out.1 (hb1.trans (hXb.mono hb1.size)) hp ((hXb.block _ hpr).trans hPr.out) (by omega) (by omega) (by omega) (by omega)
          rw [hX] at hC
          have HX : Hid (X = _) := hX
          have HTX : Hid (Turned p w1 X) := hTr.out.trans (Turned.of_below hXb)
          have HXN : Hid (X.heap[wq.heap.size]? = _ ∧ wq.heap.size < X.heap.size ∧ wq.heap.size ≠ p) := ⟨hXn, lt_row hXn, by omega⟩
          have HRU : Hid _ := hru
          have HGN : Hid (g.Nodup ∧ ∀ h ∈ g, h < w0.heap.size) := ⟨hgn, hgl⟩
          have HT : Hid (CS[i]? = some (t, u)) := ht
          have hil' : (i : Int) < (l4 : Int) := by omega
          clear hcl hre hvl ht hPr hTr hTw hfn hfl hru hgn hgl hX hXb hXn
          go_wp2_with fail
          refine hC.mono ?_
          clear hC f0 f1 f2 f3 f4 f5 f6 f7 f8 f9
          rintro e w2 ⟨b1, rfl, q1, q2, q3⟩
          rw [← HX.out] at q3
          have HT2 : Hid (Turned p w1 w2) := HTX.out.trans q3.out
          cases b1
          · have HN : Hid (¬ FN) := fun hRR => by
              have h9 := HPC.out i _ HT.out hRR
              have h8 := h9.2.1
              rw [show 11 - deep - 1 = 11 - (deep + 1) from by omega] at h8
              have := q1.out.2 ⟨h8, h9.1⟩
              cases this
            have hT2 : Hid (Turned p w w2) := HT1.out.trans HT2.out
            clear q1 q2 q3 HPC HFA
            go_wp2_with fail
            go_ret
            exact ⟨false, rfl, iff_no HN.out, (fun e => Bool.noConfusion e), hT2⟩
          · obtain ⟨hF1, hN1⟩ := q1.out.1 rfl
            have hP2 := q2.out rfl
            have hb2 : Below w0.heap.size w0 w2 := HB0.out.trans ((HT1.out.trans HT2.out).below hp HB0.out.size)
            have hrw := (q3.out.block _ HXN.out.2.1 HXN.out.2.2).trans HXN.out.1
            have f5 : w2.cell? ⟨wq.heap.size, 5, none⟩ = some (.int .i64 z0) := by rw [cell_of_row w2 _ 5 _ _ _ hrw]; rfl
            have f6 : w2.cell? ⟨wq.heap.size, 6, none⟩ = some (.int .i64 z1) := by rw [cell_of_row w2 _ 6 _ _ _ hrw]; rfl
            have f7 : w2.cell? ⟨wq.heap.size, 7, none⟩ = some (.string z2) := by rw [cell_of_row w2 _ 7 _ _ _ hrw]; rfl
            have f8 : w2.cell? ⟨wq.heap.size, 8, none⟩ = some (.slice za3 zl3 zc3) := by rw [cell_of_row w2 _ 8 _ _ _ hrw]; rfl
            have f9 : w2.cell? ⟨wq.heap.size, 9, none⟩ = some (.slice za4 zl4 zc4) := by rw [cell_of_row w2 _ 9 _ _ _ hrw]; rfl
            have hle1 := hF1.2
            have hC := HI.out w0 _ u g (deep + 1) (L - 1 - M - sumP (ClF (cntX d)) CS i - cntX d t) p w2 HRU.out HGN.out.1 HGN.out.2 HZP.out.2 hb2 hp hP2 (by omega) (by omega) (by omega) (by omega)
            have HF1 : Hid (FineX d true (11 - deep - 1) (L - 1 - M - sumP (ClF (cntX d)) CS i) t ∧ (vars d t).Nodup) := by
              rw [show 11 - (deep + 1) = 11 - deep - 1 from by omega] at hF1
              exact ⟨hF1, hN1⟩
            clear q1 q2 q3 hF1 hN1 hP2 hb2 hrw hle1
            go_wp2_with fail
            refine hC.mono ?_
            clear hC f5 f6 f7 f8 f9
            rintro e w3 ⟨b3, rfl, q1, q2, q3⟩
            have HT3 : Hid (Turned p w1 w3) := HT2.out.trans q3.out
            cases b3
            · have HN : Hid (¬ FN) := fun hRR => by
                have h9 := HPC.out i _ HT.out hRR
                have h8 := h9.2.2
                rw [show 11 - deep - 1 = 11 - (deep + 1) from by omega] at h8
                have := q1.out.2 h8
                cases this
              have hT3 : Hid (Turned p w w3) := HT1.out.trans HT3.out
              clear q1 q2 q3 HPC HFA
              go_wp2_with fail
              go_ret
              exact ⟨false, rfl, iff_no HN.out, (fun e => Bool.noConfusion e), hT3⟩
            · have HP3 : Hid (w3.heap[p]? = some (.cells #[.int .i64 (L - 1 - M - sumP (ClF (cntX d)) CS (i + 1))] 3 (0, 0))) := by
                show _ = _
                have := HST.out
                rw [q2.out rfl, show L - 1 - (M : Int) - (sumP (ClF (cntX d)) CS i : Int) - (cntX d t : Int) - (cntX d u : Int) = L - 1 - (M : Int) - (sumP (ClF (cntX d)) CS (i + 1) : Int) from by omega]
              have HNX : Hid (PrC d (11 - deep) L M CS (i + 1)) := by
                have h8 := q1.out.1 rfl
                rw [show 11 - (deep + 1) = 11 - deep - 1 from by omega] at h8
                exact hR.out.step HT.out HF1.out.2 HF1.out.1 h8
              clear q1 q2 q3 HF1 hR
              go_wp2_with fail
              go_roundw
              case rel => exact ⟨i + 1, by omega, by go_num, HT3, HP3, HNX⟩
              case measure => simp [intOf]; omega
        · obtain rfl : i = l4 := by omega
          have HR : Hid FN := HFA.out HEE.out hR.out
          have HY : Hid (wq.heap[p]? = some (.cells #[.int .i64 (L - (CN : Nat))] 3 (0, 0))) := by
            have h8 := hPr.out
            rw [← HL4.out, sumP_whole] at h8
            show _ = _
            rw [h8, show L - 1 - (M : Int) - ((CS.map (ClF (cntX d))).sum : Int) = L - (CN : Int) from by have := HCN.out; omega]
          have HTW : Hid (Turned p w wq) := hTw
          have hil' : decide ((i : Int) < (i : Int)) = false := by simp
          clear hPr hTr hR hTw
          go_wp2_with fail
          go_ret
          exact ⟨true, rfl, iff_yes HR.out, fun _ => HY.out, HTW⟩

theorem exprFits_any : ∀ d, XfC d := by
  intro d
  induction d with
  | zero => intro w0 vs e fp deep L p w h; exact h.elim
  | succ d ih => exact exprFits_of d ih

set_option maxHeartbeats 1000000 in
theorem exprOk_any (d : Nat) (vs : List Value) (x : Ex d) (fp : List Nat) (w : World) (hown : ExO d w vs x fp) (hnd : fp.Nodup) (hlt : ∀ g ∈ fp, g < w.heap.size) (hz : szX d x ≤ 1048576) :
    Calls Tryz.prog 40 #[.agg vs.toArray] w fun e w' => ∃ b : Bool, e = .returned (.bool b) ∧ Hid (b = true ↔ FineX d false 10 300 x) ∧ Below w.heap.size w w' := by
  obtain ⟨k, n, s, a3, l3, c3, a4, l4, c4, rfl⟩ := ExO.shape d w vs x fp hown
  obtain ⟨W, hW⟩ : ∃ W, W = w.alloc (.cells #[.int .i64 k, .int .i64 n, .string s, .slice a3 l3 c3, .slice a4 l4 c4] 39) := ⟨_, rfl⟩
  obtain ⟨V, hV⟩ : ∃ V, V = W.alloc (.cells #[.int .i64 300] 3) := ⟨_, rfl⟩
  have hA : Below w.heap.size w V := by rw [hV, hW]; exact ((Below.refl _ _).alloc (Nat.le_refl _) _).alloc (by simp) _
  have hWz : W.heap.size = w.heap.size + 1 := by rw [hW]; simp
  have hB1 : V.heap[W.heap.size]? = some (.cells #[.int .i64 300] 3 (0, 0)) := by rw [hV]; exact heap_alloc_new W _
  have hVz : V.heap.size = w.heap.size + 2 := by rw [hV]; simp [hWz]
  have hC := exprFits_any d w _ x fp 1 300 W.heap.size V hown hnd hlt hz hA (by omega) hB1 (by omega) (by omega) (by omega) (by omega)
  rw [show (11 : Int) - 1 = 10 from rfl] at hC
  rw [hWz] at hC
  rw [hV, hW] at hC
  have HV : Hid (V = _) := hV
  have HW : Hid (W = _) := hW
  clear hV hW hB1 hown hnd hlt hz
  go_enter Tryz.func40, Tryz.ntmps40
  go_wp2_with fail
  refine hC.mono ?_
  clear hC
  rintro e w1 ⟨b, rfl, hb, _, hT⟩
  rw [← HW.out, ← HV.out] at hT
  have HBL : Hid (Below w.heap.size w w1) := hA.trans (hT.out.below (by omega) (by omega))
  clear hT hA HW HV hWz hVz
  go_wp2_with fail
  go_ret
  exact ⟨b, rfl, hb, HBL.out⟩

end Go.Proofs.YtgeedoeaepcmcaaGreatDoor
