/- Whether a pattern fits: the model's. -/
import Derived.Test.YtfcdmmmihiojoaaSp9c
namespace Go.Proofs.Ytfcdmmmihiojoaa
open Go.RowKit
set_option linter.unusedVariables false

def pPatFits : (d : Nat) → Tm d → Int → Prop
  | 0, _, _ => False
  | d + 1, x, sl => (0 ≤ sl ∧ sl ≤ 400) ∧ RightQ sl d x.K x.N x.S x.L 10 300 ∧ (slotsP (d + 1) x).Nodup

theorem nodup_no {l : List Int} {i k : Nat} {x : Int} (hk : k < i) (h1 : l[k]? = some x) (h2 : l[i]? = some x) : ¬ l.Nodup := fun h => by
  obtain ⟨p1, p2⟩ := List.getElem?_eq_some_iff.1 h1
  obtain ⟨q1, q2⟩ := List.getElem?_eq_some_iff.1 h2
  have := (List.pairwise_iff_getElem.1 h) k i p1 q1 hk
  exact this (by rw [p2, q2])
theorem nodup_yes {l : List Int} (h : ∀ (i : Nat), i < l.length → ∀ (k : Nat) (x y : Int), k < i → l[k]? = some x → l[i]? = some y → ¬ x = y) : l.Nodup := by
  refine List.pairwise_iff_getElem.2 fun k i hk hi hki e => ?_
  exact h i hi k l[k] l[i] hki (List.getElem?_eq_getElem hk) (List.getElem?_eq_getElem hi) e

set_option maxRecDepth 100000 in
set_option maxHeartbeats 4000000 in
theorem specPatFits_any (d : Nat) (vs : List Value) (x : Tm d) (sl : Int) (w : World) (hr : PatR d w vs x) (hw : WfPat d x) (hz : szPatD d x ≤ 1048576) (hi : I64 sl) :
    Calls Try.prog 5 #[.agg vs.toArray, .int .i64 sl] w fun e w' => BRes (pPatFits d x sl) w e w' := by
  cases d with
  | zero => exact hr.elim
  | succ d =>
  have HSL := l9Slots_any (d + 1) vs x
  have HPR : Hid (∀ V : World, Below w.heap.size w V → PatR (d + 1) V vs x) := fun V hV => PatR.lasts (d + 1) _ _ _ _ hr hV
  have HZ : Hid (szPatD (d + 1) x ≤ 1048576) := hz
  obtain ⟨lv, rfl, h1⟩ := hr
  obtain ⟨a, l, c, rfl⟩ := h1.sl
  have HRD : Hid (∀ V : World, Below w.heap.size w V → RdL d V (.slice a l c) x.L) := fun V hV => pat_rd d V _ _ (h1.later (PatR.lasts d) hV)
  have HWL : Hid (WfL d x.L ∧ x.S.size ≤ 9223372036854775807) := ⟨pat_wf d _ hw.2.2.2, by have := hw.2.2.1; unfold maxLen at this; omega⟩
  have hlen := slotsP_len (d + 1) x
  have HSM : Hid ((slotsP (d + 1) x).length ≤ 1048577) := by show _ ≤ _; omega
  obtain ⟨W, hW⟩ : ∃ W, W = w.alloc (.cells #[.int .i64 x.K, .int .i64 x.N, .string x.S, .slice a l c] 29) := ⟨_, rfl⟩
  have HA : Hid (Below w.heap.size w W) := by rw [hW]; exact (Below.refl _ _).alloc (Nat.le_refl _) _
  have n1 : W.heap[w.heap.size]? = some (.cells #[.int .i64 x.K, .int .i64 x.N, .string x.S, .slice a l c] 29 (0, 0)) := by rw [hW]; exact heap_alloc_new w _
  have HB : Hid (W.heap[w.heap.size]? = some (.cells #[.int .i64 x.K, .int .i64 x.N, .string x.S, .slice a l c] 29 (0, 0))) := n1
  have d0 : W.cell? ⟨w.heap.size, 0, none⟩ = some (.int .i64 x.K) := by rw [cell_of_row W _ 0 _ _ _ n1]; rfl
  have d1 : W.cell? ⟨w.heap.size, 1, none⟩ = some (.int .i64 x.N) := by rw [cell_of_row W _ 1 _ _ _ n1]; rfl
  have d2 : W.cell? ⟨w.heap.size, 2, none⟩ = some (.string x.S) := by rw [cell_of_row W _ 2 _ _ _ n1]; rfl
  have d3 : W.cell? ⟨w.heap.size, 3, none⟩ = some (.slice a l c) := by rw [cell_of_row W _ 3 _ _ _ n1]; rfl
  have hC1 := in_call sl 0 400 W
  rw [hW] at hC1
  have HW : Hid (W = _) := hW
  clear h1 hw hz hlen n1 hW
  go_enter Try.func5, Try.ntmps5
  go_wp2_with fail
  refine hC1.mono ?_
  clear hC1
  rintro e w1 ⟨b1, rfl, hb1, hw1⟩
  rw [← HW.out] at hw1
  subst hw1
  clear HW
  cases b1 with
  | false =>
    have HF : Hid (¬ pPatFits (d + 1) x sl) := fun h => by have := hb1.2 h.1; cases this
    go_wp2_with fail
    go_ret
    exact bres_no HF.out HA.out
  | true =>
  have hsl : 0 ≤ sl ∧ sl ≤ 400 := hb1.1 rfl
  have HS1 : Hid (0 ≤ sl ∧ sl ≤ 400) := hsl
  have hC2 := lookQ_any sl hsl.1 (by omega) d x.K x.N x.S (.slice a l c) x.L 10 300 W (HRD.out W HA.out) HWL.out.1 HWL.out.2 (by omega) (by omega) (by omega) (by omega)
  clear hb1 hsl
  go_wp2_with fail
  refine hC2.mono ?_
  clear hC2 d0 d1 d2 d3
  rintro e w2 ⟨r, rfl, hrr, hB2⟩
  have HBW : Hid (Below w.heap.size w w2) := HA.out.trans (hB2.mono HA.out.size)
  have n2 := (hB2.block _ (lt_row HB.out)).trans HB.out
  have d0 : w2.cell? ⟨w.heap.size, 0, none⟩ = some (.int .i64 x.K) := by rw [cell_of_row w2 _ 0 _ _ _ n2]; rfl
  have d1 : w2.cell? ⟨w.heap.size, 1, none⟩ = some (.int .i64 x.N) := by rw [cell_of_row w2 _ 1 _ _ _ n2]; rfl
  have d2 : w2.cell? ⟨w.heap.size, 2, none⟩ = some (.string x.S) := by rw [cell_of_row w2 _ 2 _ _ _ n2]; rfl
  have d3 : w2.cell? ⟨w.heap.size, 3, none⟩ = some (.slice a l c) := by rw [cell_of_row w2 _ 3 _ _ _ n2]; rfl
  clear hB2 n2
  by_cases hr0 : r < 0
  · have HF : Hid (¬ pPatFits (d + 1) x sl) := fun h => by
      rcases hrr with ⟨q1, q2⟩ | ⟨q1, q2⟩
      · have := q1.2.2.2; omega
      · exact q1 h.2.1
    clear hrr d0 d1 d2 d3
    go_wp2_with fail
    go_ret
    exact bres_no HF.out HBW.out
  have HRT : Hid (RightQ sl d x.K x.N x.S x.L 10 300) := by
    rcases hrr with ⟨q1, q2⟩ | ⟨q1, q2⟩
    · exact q1
    · omega
  clear hrr
  have hC3 := HSL w2 (HPR.out w2 HBW.out) HZ.out
  clear HSL
  go_wp2_with fail
  refine hC3.mono ?_
  clear hC3 d0 d1 d2 d3
  rintro e w3 ⟨g, gn, gc, rfl, HR3, hB3⟩
  obtain ⟨hgn, hcl⟩ := HR3.out.cells
  have HB3 : Hid (Below w.heap.size w w3) := HBW.out.trans (hB3.mono HBW.out.size)
  obtain ⟨sl', hsl'⟩ : ∃ s, slotsP (d + 1) x = s := ⟨_, rfl⟩
  have HSP : Hid (slotsP (d + 1) x = sl') := hsl'
  rw [hsl'] at hgn hcl HSM
  have hlm : gn ≤ 1048577 := by have := HSM.out; omega
  have HC : Hid (∀ (j : Nat) (y : Int), sl'[j]? = some y → w3.cell? ⟨g, j, none⟩ = some (.int .i64 y)) := fun j y hy => by
    have := hcl j (.int .i64 y) (by rw [List.getElem?_map, hy]; rfl)
    rw [Addr.add_lit, Nat.zero_add] at this
    exact this
  have HGN : Hid (sl'.length = gn) := hgn.symm
  clear hB3 HR3 hcl hsl' hgn
  go_wp2_with fail
  go_loopw [6] (fun i wr => ∃ k : Nat, k ≤ gn ∧ i = .int .i64 k ∧ Below w3.heap.size w3 wr ∧ Hid (∀ (i : Nat), i < k → ∀ (j : Nat) (u v : Int), j < i → sl'[j]? = some u → sl'[i]? = some v → ¬ u = v)) (fun i _ => gn - (intOf i).toNat)
  case atStart => exact ⟨0, Nat.zero_le _, rfl, Below.refl _ _, fun j hj => absurd hj (Nat.not_lt_zero _)⟩
  case round =>
    obtain ⟨k, hk, rfl, hbw, HN⟩ := hrel
    have HBX : Hid (Below w3.heap.size w3 wr ∧ Below w.heap.size w wr) := ⟨hbw, HB3.out.trans (hbw.mono HB3.out.size)⟩
    clear hbw
    by_cases hkl : k < gn
    · obtain ⟨t, ht⟩ : ∃ t, sl'[k]? = some t := ⟨_, List.getElem?_eq_getElem (by have := HGN.out; omega)⟩
      have HT : Hid (sl'[k]? = some t) := ht
      have hkl' : (k : Int) < (gn : Int) := by omega
      clear ht
      go_wp2_with fail
      go_loopw [7] (fun i wr => ∃ q : Nat, q ≤ k ∧ i = .int .i64 q ∧ Below w3.heap.size w3 wr ∧ Hid (∀ (j : Nat) (u : Int), j < q → sl'[j]? = some u → ¬ u = t)) (fun i _ => k - (intOf i).toNat)
      case atStart => exact ⟨0, Nat.zero_le _, rfl, HBX.out.1, fun j g hj => absurd hj (Nat.not_lt_zero _)⟩
      case round =>
        obtain ⟨q, hq, rfl, hbv, HM⟩ := hrel
        have HBY : Hid (Below w3.heap.size w3 wr ∧ Below w.heap.size w wr) := ⟨hbv, HB3.out.trans (hbv.mono HB3.out.size)⟩
        clear hbv
        by_cases hql : q < k
        · obtain ⟨u, hu⟩ : ∃ u, sl'[q]? = some u := ⟨_, List.getElem?_eq_getElem (by have := HGN.out; omega)⟩
          have f0 := cell_later HBY.out.1 (HC.out q u hu)
          have f1 := cell_later HBY.out.1 (HC.out k t HT.out)
          have hql' : (q : Int) < (k : Int) := by omega
          have hql2 : (q : Int) < (gn : Int) := by omega
          have HU : Hid (sl'[q]? = some u) := hu
          clear hu
          by_cases huv : u = t
          · subst huv
            have HF : Hid (¬ pPatFits (d + 1) x sl) := fun h => nodup_no hql HU.out HT.out (by have := h.2.2; rw [HSP.out] at this; exact this)
            clear HM HN
            go_wp2_with fail
            go_region
            all_goals
              have HBZ : Hid (Below w.heap.size w wr.drew) := HBY.out.2.drew
              go_wp2_with fail
              go_ret
              exact bres_no HF.out HBZ.out
          · have HF : Hid (∀ (j : Nat) (z : Int), j < q + 1 → sl'[j]? = some z → ¬ z = t) := fun j z hj hz => by
              rcases Nat.lt_or_ge j q with v | v
              · exact HM.out j z v hz
              · obtain rfl : j = q := by omega
                have := HU.out.symm.trans hz
                cases this
                exact huv
            clear HM
            go_wp2_with fail
            go_region
            all_goals
              have HBZ : Hid (Below w3.heap.size w3 wr.drew) := HBY.out.1.drew
              go_wp2_with fail
              go_roundw
              case rel => exact ⟨q + 1, by omega, by go_num, HBZ.out, HF⟩
              case measure => simp [intOf]; omega
        · obtain rfl : q = k := by omega
          have hql' : decide ((q : Int) < (q : Int)) = false := by simp
          have HF : Hid (∀ (i : Nat), i < q + 1 → ∀ (j : Nat) (u v : Int), j < i → sl'[j]? = some u → sl'[i]? = some v → ¬ u = v) := fun i hi j u v hj hu hv => by
            rcases Nat.lt_or_ge i q with z | z
            · exact HN.out i z j u v hj hu hv
            · obtain rfl : i = q := by omega
              have := HT.out.symm.trans hv
              cases this
              exact HM.out j u hj hu
          clear HM HN
          go_wp2_with fail
          go_roundw
          case rel => exact ⟨q + 1, by omega, by go_num, HBY.out.1, HF⟩
          case measure => simp [intOf]; omega
    · obtain rfl : k = gn := by omega
      have hkl' : decide ((k : Int) < (k : Int)) = false := by simp
      have HF : Hid (pPatFits (d + 1) x sl) := ⟨HS1.out, HRT.out, by rw [HSP.out]; exact nodup_yes fun i hi => HN.out i (by have := HGN.out; omega)⟩
      clear HN
      go_wp2_with fail
      go_ret
      exact bres_yes HF.out HBX.out.2

end Go.Proofs.Ytfcdmmmihiojoaa
