/- The program's way through a pattern by slots, all storeys. -/
import Derived.Test.YtfcdmmmihiojoaaPf4
namespace Go.Proofs.Ytfcdmmmihiojoaa
open Go.RowKit
set_option linter.unusedVariables false

theorem takes_nodup {sl n : Int} {tk : List Int} (h : tk.Nodup) (ht : TakesP sl tk n) : (tk ++ ownSlot 3 n).Nodup := by
  rcases ht with rfl | ⟨h1, h2, h3⟩
  · simpa [ownSlot] using h
  · rw [show ownSlot 3 n = [n] from by unfold ownSlot; rw [if_pos ⟨rfl, by omega⟩], List.nodup_append]
    exact ⟨h, by simp, fun x hx y hy e => by simp at hy; subst hy; subst e; exact h3 hx⟩
theorem fits_refused {sl : Int} {d : Nat} {deep L : Int} {tk : List Int} {x : Tm (d + 1)} (hd0 : 1 ≤ deep) (h : L = 0 ∨ 10 < deep ∨ ¬ ShapeF x.K x.N x.S x.L.length ∨ (x.K = 3 ∧ ¬ TakesP sl tk x.N)) : ¬ FitsP sl (d + 1) (11 - deep) L tk x := by
  rintro ⟨⟨h1, h2, h3⟩, h4, h5⟩
  have h6 := cntT_pos d x
  obtain ⟨q1, q2⟩ := (shapeQ_iff _ _ _ _ _).1 h2
  rcases h with h | h | h | ⟨h, g⟩
  · omega
  · omega
  · exact h q1
  · refine g ?_
    have q3 := q2 h
    by_cases hn : x.N = -1
    · exact .inl hn
    · refine .inr ⟨by omega, by omega, fun hm => ?_⟩
      have e : slotsP (d + 1) x = ownSlot x.K x.N ++ x.L.flatMap (slotsP d) := rfl
      rw [e, h, show ownSlot 3 x.N = [x.N] from by unfold ownSlot; rw [if_pos ⟨rfl, hn⟩], List.nodup_append] at h5
      exact h5.2.2 x.N hm x.N (by simp) rfl

set_option maxRecDepth 100000 in
set_option maxHeartbeats 4000000 in
theorem fits_of (sl : Int) (hsl : 0 ≤ sl) (hsl2 : sl ≤ 400) (d : Nat) (H : PtC sl d) : PtC sl (d + 1) := by
  rintro w0 vs x deep L p tk w ⟨v3, rfl, h1⟩ ⟨wK, wN, wS, wE⟩ hz hb0 hp hG hnd hd0 hd1 hL0 hL1
  have hz' : x.S.size + szRow (szPatD d) x.L ≤ 1048576 := hz
  have hsE := sumP_all (szPatD d) x.L
  obtain ⟨a, c, rfl, hel⟩ := h1
  by_cases h : L = 0 ∨ 10 < deep ∨ ¬ ShapeF x.K x.N x.S x.L.length ∨ (x.K = 3 ∧ ¬ TakesP sl tk x.N)
  · exact fits_no _ _ _ sl x.K x.N x.S a x.L.length c deep L p tk w (by omega) (by omega) wN hG hsl hsl2 hd0 hd1 hL0 hL1 h (fits_refused hd0 h)
  have g1 : ¬ L = 0 := fun e => h (.inl e)
  have g2 : ¬ 10 < deep := fun e => h (.inr (.inl e))
  have HS : Hid (ShapeF x.K x.N x.S x.L.length) := Classical.byContradiction fun e => h (.inr (.inr (.inl e)))
  have g4 : x.K = 3 → TakesP sl tk x.N := fun e => Classical.byContradiction fun q => h (.inr (.inr (.inr ⟨e, q⟩)))
  have HSQ : Hid (ShapeQ sl x.K x.N x.S x.L.length) := (shapeQ_iff _ _ _ _ _).2 ⟨HS.out, fun e => by
    rcases g4 e with q | q
    · omega
    · omega⟩
  have HE : Hid (∀ (i : Nat) (t : Tm d), x.L[i]? = some t → ∃ b o vs, a = some ⟨b, o, none⟩ ∧ vs.length = 4 ∧ (∀ (j : Nat) (u : Value), vs[j]? = some u → w0.cell? ⟨b, o + i * 4 + j, none⟩ = some u) ∧ PatR d w0 vs t) := hel
  have HFA : Hid (PrP sl d (11 - deep) L (tk ++ ownSlot x.K x.N) x.L x.L.length → FitsP sl (d + 1) (11 - deep) L tk x) := fun q => FitsP.all (by omega) HSQ.out q
  have HPA : Hid (∀ (j : Nat) (t : Tm d), x.L[j]? = some t → FitsP sl (d + 1) (11 - deep) L tk x → FitsP sl d (11 - deep - 1) (L - 1 - sumP (cntT d) x.L j) (tk ++ ownSlot x.K x.N ++ (x.L.take j).flatMap (slotsP d)) t) := fun j t ht q => q.part ht
  have HZE : Hid (szRow (szPatD d) x.L ≤ 1048576) := by show _ ≤ _; omega
  have HWE : Hid (WfRow (WfPat d) x.L) := wE
  have HCN : Hid (cntT (d + 1) x = 1 + (x.L.map (cntT d)).sum) := rfl
  have HSL : Hid (slotsP (d + 1) x = ownSlot x.K x.N ++ x.L.flatMap (slotsP d)) := rfl
  obtain ⟨FN, hFN⟩ : ∃ F : Prop, FitsP sl (d + 1) (11 - deep) L tk x = F := ⟨_, rfl⟩
  obtain ⟨CN, hCN⟩ : ∃ F : Nat, cntT (d + 1) x = F := ⟨_, rfl⟩
  obtain ⟨SN, hSN⟩ : ∃ F : List Int, slotsP (d + 1) x = F := ⟨_, rfl⟩
  rw [hFN] at HPA HFA
  rw [hCN] at HCN
  rw [hSN] at HSL
  rw [hFN, hCN, hSN]
  obtain ⟨ES, hES⟩ : ∃ l, x.L = l := ⟨_, rfl⟩
  obtain ⟨K, hK⟩ : ∃ K, x.K = K := ⟨_, rfl⟩
  obtain ⟨N, hN⟩ : ∃ N, x.N = N := ⟨_, rfl⟩
  obtain ⟨S, hS⟩ : ∃ S, x.S = S := ⟨_, rfl⟩
  rw [hES] at HE HFA HPA HZE hsE HCN HSL HWE HS hz'
  rw [hK, hN] at HFA HPA HSL HS g4
  rw [hS] at HS hz'
  rw [hN] at wN
  rw [hK, hN, hS, hES]
  have hs0 : S.size ≤ 9223372036854775807 := by omega
  have hlE : ES.length ≤ 1048576 := by omega
  clear hK hN hS hES hFN hCN hSN hz hz' hel hsE h wE wK wS HSQ
  obtain ⟨len, hl⟩ : ∃ l, ES.length = l := ⟨_, rfl⟩
  have HL : Hid (ES.length = len) := hl
  rw [hl] at HFA HS hlE ⊢
  clear hl
  have hpz := hG.lt
  have c1 := hG.left
  have z1 := hG.thaw 1
  obtain ⟨V, hV⟩ : ∃ V, V = (w.setCell ⟨p, 1, none⟩ (.int .i64 (L - 1))).alloc (.cells #[.int .i64 K, .int .i64 N, .string S, .slice a len c] 29) := ⟨_, rfl⟩
  have hT : Turned p w V := by rw [hV]; exact (Turned.of_set _ _ _ _).trans (Turned.of_below ((Below.refl _ _).alloc (Nat.le_refl _) _))
  have HGV : Hid (FgA V p sl (L - 1) tk) := by rw [hV]; exact (hG.less (L - 1)).kept (by rw [(((Below.refl _ _).alloc (Nat.le_refl _) _).block p (by simpa using hpz))])
  have hVt : V.heap[w.heap.size]? = some (.cells #[.int .i64 K, .int .i64 N, .string S, .slice a len c] 29 (0, 0)) := by
    rw [hV, show w.heap.size = (w.setCell ⟨p, 1, none⟩ (.int .i64 (L - 1))).heap.size from by simp]; exact heap_alloc_new _ _
  have hC := patFieldsFit_any K N S a len c V hs0 (by omega)
  rw [hV] at hC
  have HV : Hid (V = _) := hV
  have HI : Hid (PtC sl d) := H
  have hL2 : decide (L - 1 < 0) = false := by simp; omega
  have HND : Hid (tk.Nodup) := hnd
  clear hV H hG hnd
  go_enter Try.func14, Try.ntmps14
  go_wp2_with fail
  refine hC.mono ?_
  clear hC
  rintro e w1 ⟨b, rfl, hb, hB⟩
  rw [← HV.out] at hB
  have HT1 : Hid (Turned p w w1) := hT.trans (Turned.of_below hB)
  have : b = true := hb.2 HS.out
  subst this
  have HG1 : Hid (FgA w1 p sl (L - 1) tk) := HGV.out.kept (hB.block _ HGV.out.lt)
  have HB1 : Hid (w1.heap[w.heap.size]? = _) := (hB.block _ (lt_row hVt)).trans hVt
  have d0 : w1.cell? ⟨w.heap.size, 0, none⟩ = some (.int .i64 K) := by rw [cell_of_row w1 _ 0 _ _ _ HB1.out]; rfl
  have d1 : w1.cell? ⟨w.heap.size, 1, none⟩ = some (.int .i64 N) := by rw [cell_of_row w1 _ 1 _ _ _ HB1.out]; rfl
  have d3 : w1.cell? ⟨w.heap.size, 3, none⟩ = some (.slice a len c) := by rw [cell_of_row w1 _ 3 _ _ _ HB1.out]; rfl
  clear hb hB HV hT hVt c1 z1 HGV
  by_cases hk3 : K = 3
  · have HTK : Hid (TakesP sl tk N) := g4 hk3
    have hl0 : len = 0 := by
      have := HS.out
      rw [hk3, shapeF3] at this
      exact this.2
    have HE0 : Hid (ES = []) := List.length_eq_zero_iff.1 (by rw [HL.out]; exact hl0)
    subst hk3
    subst hl0
    have hC := takes_any p sl (L - 1) N tk w1 HG1.out hsl hsl2 wN
    clear g4
    go_wp2_with fail
    refine hC.mono ?_
    clear hC
    rintro e w2 ⟨b, rfl, hb, hg2, hT2⟩
    have : b = true := hb.2 HTK.out
    subst this
    have HT2 : Hid (Turned p w w2) := HT1.out.trans hT2
    have HG2 : Hid (FgA w2 p sl (L - CN) (tk ++ SN)) := by
      have := hg2 rfl
      show FgA _ _ _ _ _
      rw [HSL.out, HE0.out, HCN.out, HE0.out]
      simpa using this
    have HFN : Hid FN := HFA.out (by
      have := PrP.start (sl := sl) (D := 11 - deep) (L := L) (ts := ES) (by omega) (takes_nodup HND.out HTK.out)
      exact this)
    have d3' : w2.cell? ⟨w.heap.size, 3, none⟩ = some (.slice a 0 c) := by
      rw [cell_of_row w2 _ 3 _ _ _ ((hT2.block _ (lt_row HB1.out) (by omega)).trans HB1.out)]; rfl
    clear hb hg2 hT2 d0 d1 d3 HG1
    go_wp2_with fail
    refine wp_loop_rounds 1 ?_
    rw [rounds_succ]
    go_wp2
    go_ret
    exact tk_yes HFN.out HG2.out HT2.out
  have hk3' : (K == 3) = false := by simp [hk3]
  have HOS : Hid (ownSlot K N = []) := by show _ = _; unfold ownSlot; rw [if_neg (fun e => hk3 e.1)]
  rw [HOS.out, List.append_nil] at HFA
  have HPB : Hid (∀ (j : Nat) (t : Tm d), ES[j]? = some t → FN → FitsP sl d (11 - deep - 1) (L - 1 - sumP (cntT d) ES j) (tk ++ (ES.take j).flatMap (slotsP d)) t) := fun j t ht q => by
    have := HPA.out j t ht q
    rw [HOS.out, List.append_nil] at this
    exact this
  clear g4 hk3 HPA
  go_wp2_with fail
  go_loopw [45] (fun i wr => ∃ j : Nat, j ≤ len ∧ i = .int .i64 j ∧ Hid (Turned p w1 wr) ∧ Hid (FgA wr p sl (L - 1 - sumP (cntT d) ES j) (tk ++ (ES.take j).flatMap (slotsP d))) ∧ Hid (PrP sl d (11 - deep) L tk ES j)) (fun i _ => len - (intOf i).toNat)
  case atStart => exact ⟨0, Nat.zero_le _, rfl, Turned.refl _ _, by
    show FgA _ _ _ (L - 1 - ((0 : Nat) : Int)) (tk ++ [])
    rw [List.append_nil, show L - 1 - ((0 : Nat) : Int) = L - 1 from by omega]
    exact HG1.out, PrP.start (by omega) HND.out⟩
  case round =>
    obtain ⟨j, hj, rfl, hTr, hPr, hR⟩ := hrel
    have hTw : Turned p w wr := HT1.out.trans hTr.out
    have hb1 : Below w0.heap.size w0 wr := hb0.trans (hTw.below hp hb0.size)
    have hpr : p < wr.heap.size := hPr.out.lt
    by_cases hjl : j < len
    · obtain ⟨t, ht⟩ : ∃ t, ES[j]? = some t := ⟨_, List.getElem?_eq_getElem (by rw [HL.out]; exact hjl)⟩
      obtain ⟨b, o, vs, rfl, hvl, hcl, hre⟩ := HE.out j t ht
      obtain ⟨y0, y1, y2, ya3, yl3, yc3, rfl⟩ := PatR.shape _ _ _ _ hre
      have f0 : wr.cell? ⟨b, o + j * 4, none⟩ = some _ := cell_later hb1 (hcl 0 _ rfl)
      have f1 : wr.cell? ⟨b, o + j * 4 + 1, none⟩ = some _ := cell_later hb1 (hcl 1 _ rfl)
      have f2 : wr.cell? ⟨b, o + j * 4 + 2, none⟩ = some _ := cell_later hb1 (hcl 2 _ rfl)
      have f3 : wr.cell? ⟨b, o + j * 4 + 3, none⟩ = some _ := cell_later hb1 (hcl 3 _ rfl)
      have hstep := sumP_succ (cntT d) ES j t ht
      have hle := hR.out.2.1
      have hC : ∀ X, Below wr.heap.size wr X → Calls Try.prog 14 #[.pointer (some ⟨p, 0, none⟩), .agg #[.int .i64 y0, .int .i64 y1, .string y2, .slice ya3 yl3 yc3], .int .i64 (deep + 1)] X fun e w' => ∃ b : Bool, e = .returned (.bool b) ∧
          (b = true → Hid (FgA w' p sl (L - 1 - sumP (cntT d) ES (j + 1)) (tk ++ (ES.take (j + 1)).flatMap (slotsP d))) ∧ Hid (PrP sl d (11 - deep) L tk ES (j + 1))) ∧ (b = false → Hid (¬ FN)) ∧ Hid (Turned p w1 w') := fun X hX => by
        refine (HI.out w0 _ t (deep + 1) (L - 1 - sumP (cntT d) ES j) p (tk ++ (ES.take j).flatMap (slotsP d)) X hre (HWE.out.2 t (List.mem_of_getElem? ht)) (Nat.le_trans (szRow_mem ht) HZE.out) (hb1.trans (hX.mono hb1.size)) hp (hPr.out.kept (hX.block _ hpr)) hR.out.2.2 (by omega) (by omega) (by omega) (by omega)).mono ?_
        rintro e w' ⟨b, rfl, q1, q2, q3⟩
        refine ⟨b, rfl, fun hb => ⟨?_, ?_⟩, fun hb => ?_, hTr.out.trans ((Turned.of_below hX).trans q3)⟩
        · have := q2 hb
          rw [List.append_assoc, ← flat_next _ ht, show L - 1 - (sumP (cntT d) ES j : Int) - (cntT d t : Int) = L - 1 - (sumP (cntT d) ES (j + 1) : Int) from by omega] at this
          exact this
        · refine PrP.step ht hR.out ?_
          have := q1.1 hb
          rw [show 11 - (deep + 1) = 11 - deep - 1 from by omega] at this
          exact this
        · intro hRR
          have := HPB.out j t ht hRR
          rw [show 11 - deep - 1 = 11 - (deep + 1) from by omega] at this
          rw [q1.2 this] at hb
          cases hb
      have hjl' : (j : Int) < (len : Int) := by omega
      clear hcl hre hvl ht hR hPr hTr hTw hstep hle
      go_wp2_with fail
      refine (hC _ ((Below.refl _ _).alloc (Nat.le_refl _) _)).mono ?_
      clear hC
      rintro e w' ⟨b, rfl, q1, q2, q3⟩
      cases b
      · have HN := q2 rfl
        have hT2 : Turned p w w' := HT1.out.trans q3.out
        clear q1 q2
        go_wp2_with fail
        go_ret
        exact tk_no HN.out hT2
      · obtain ⟨q4, q5⟩ := q1 rfl
        clear q1 q2
        go_wp2_with fail
        go_roundw
        case rel => exact ⟨j + 1, by omega, by go_num, q3, q4, q5⟩
        case measure => simp [intOf]; omega
    · obtain rfl : j = len := by omega
      have HR : Hid FN := HFA.out hR.out
      have HY : Hid (FgA wr p sl (L - CN) (tk ++ SN)) := by
        have h8 := hPr.out
        rw [← HL.out, sumP_end, List.take_length] at h8
        show FgA _ _ _ _ _
        rw [HSL.out, HOS.out, List.nil_append, show L - (CN : Int) = L - 1 - ((ES.map (cntT d)).sum : Int) from by have := HCN.out; omega]
        exact h8
      have hjl' : decide ((j : Int) < (j : Int)) = false := by simp
      clear hPr hTr hR
      go_wp2_with fail
      go_ret
      exact tk_yes HR.out HY.out hTw

theorem fits_any (sl : Int) (hsl : 0 ≤ sl) (hsl2 : sl ≤ 400) : ∀ d, PtC sl d := by
  intro d
  induction d with
  | zero => intro w0 vs e deep L p tk w h; exact h.elim
  | succ d ih => exact fits_of sl hsl hsl2 d ih

end Go.Proofs.Ytfcdmmmihiojoaa
