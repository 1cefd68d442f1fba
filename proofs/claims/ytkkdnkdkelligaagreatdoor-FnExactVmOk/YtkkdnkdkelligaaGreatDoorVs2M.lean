/- A machine, whether it is right: the model's. -/
import Derived.Test.YtkkdnkdkelligaaGreatDoorVs1M
import Derived.Test.YtkkdnkdkelligaaGreatDoorVp3M
namespace Go.Proofs.YtkkdnkdkelligaaGreatDoor
open Go.RowKit
set_option linter.unusedVariables false

theorem fr_det {P : Prop} {h hb : Int} {f : FuncId} {args : Array Value} {w : World} {b : Bool} (hP : b = true ↔ P) (H : Calls Tryz.prog f args w fun e w' => FrRes P h hb w e w') : Calls Tryz.prog f args w fun e w' => e = .returned (.tuple #[.int .i64 (if b then h else hb), .bool b]) ∧ Below w.heap.size w w' :=
  H.mono fun e w' hh => by
    obtain ⟨r, b', rfl, h1, h2, h3, hB⟩ := hh
    refine ⟨?_, hB⟩
    have : b' = b := by
      cases b' <;> cases b
      · rfl
      · exact absurd (h1.2 (hP.1 rfl)) (by decide)
      · exact absurd (hP.2 (h1.1 rfl)) (by decide)
      · rfl
    subst this
    cases b'
    · rw [h3 rfl]; rfl
    · rw [h2 rfl]; rfl

set_option maxRecDepth 100000 in
set_option maxHeartbeats 4000000 in
theorem specVmOk_any (d : Nat) (vs0 : List Value) (c : DCode d) (vs1 : List Value) (v : DVm d) (w : World) (hc : CodeR d w vs0 c) (hwc : WfCode d c) (hz : szCodeD d c ≤ 1048576) (hv : VmR d w vs1 v) (hwv : WfVm d v) (hzv : szVmD d v ≤ 1048576) :
    Calls Tryz.prog 7 #[.agg vs0.toArray, .agg vs1.toArray] w fun e w' => BRes (pVmOk c v) w e w' := by
  obtain ⟨a0, l0, c0, a1, l1, c1, rfl⟩ := CodeR.shape _ _ _ _ hc
  obtain ⟨b0, n0, k0, b1, n1, k1, rfl⟩ := VmR.shape d _ _ _ hv
  obtain ⟨PP, hPP⟩ : ∃ Q : Prop, pVmOk c v = Q := ⟨_, rfl⟩
  have HPP : Hid (pVmOk c v = PP) := hPP
  rw [hPP]
  clear hPP
  obtain ⟨v0, v1, e0, hFr, hSt⟩ := hv
  simp only [List.cons.injEq, and_true] at e0
  obtain ⟨rfl, rfl⟩ := e0
  obtain ⟨aa, cc, ee⟩ := hFr.slice
  simp only [Value.slice.injEq] at ee
  obtain ⟨-, el, -⟩ := ee
  obtain ⟨aa, cc, ee⟩ := hSt.len1
  simp only [Value.slice.injEq] at ee
  obtain ⟨-, el1, -⟩ := ee
  have HLN : Hid (v.Frames.length = n0 ∧ v.Stack.length = n1) := ⟨el.symm, el1.symm⟩
  have hn1b : n1 ≤ 1048576 := by have := szL_len v.Stack; unfold szVmD at hzv; omega
  have hn0b : n0 ≤ 1048576 := by have := szRow_len (szFrameD d) v.Frames; unfold szVmD at hzv; omega
  obtain ⟨W, hW⟩ : ∃ W, W = (w.alloc (.cells #[.slice a0 l0 c0, .slice a1 l1 c1] 36)).alloc (.cells #[.slice b0 n0 k0, .slice b1 n1 k1] 41) := ⟨_, rfl⟩
  have hA : Below w.heap.size w W := by rw [hW]; exact ((Below.refl _ _).alloc (Nat.le_refl _) _).alloc (by simp) _
  have nB : W.heap[w.heap.size + 1]? = some (.cells #[.slice b0 n0 k0, .slice b1 n1 k1] 41 (0, 0)) := by
    rw [hW, show w.heap.size + 1 = (w.alloc (.cells #[.slice a0 l0 c0, .slice a1 l1 c1] 36)).heap.size from by simp]; exact heap_alloc_new _ _
  have nA : W.heap[w.heap.size]? = some (.cells #[.slice a0 l0 c0, .slice a1 l1 c1] 36 (0, 0)) := by
    rw [hW, (((Below.refl _ _).alloc (Nat.le_refl _) _).block w.heap.size (by simp))]; exact heap_alloc_new _ _
  have HB : Hid (Below w.heap.size w W) := hA
  have HBX : Hid (∀ V : World, Below W.heap.size W V → V.cell? ⟨w.heap.size, 0, none⟩ = some (.slice a0 l0 c0) ∧ V.cell? ⟨w.heap.size, 1, none⟩ = some (.slice a1 l1 c1) ∧ V.cell? ⟨w.heap.size + 1, 0, none⟩ = some (.slice b0 n0 k0) ∧ V.cell? ⟨w.heap.size + 1, 1, none⟩ = some (.slice b1 n1 k1) ∧ w.heap.size + 1 < V.heap.size) := fun V hV => by
    have mA := (hV.block _ (lt_row nA)).trans nA
    have mB := (hV.block _ (lt_row nB)).trans nB
    exact ⟨by rw [cell_of_row V _ 0 _ _ _ mA]; rfl, by rw [cell_of_row V _ 1 _ _ _ mA]; rfl, by rw [cell_of_row V _ 0 _ _ _ mB]; rfl, by rw [cell_of_row V _ 1 _ _ _ mB]; rfl, lt_row mB⟩
  have HRF : Hid (∀ V : World, Below w.heap.size w V → RowOf 3 (FrameR d) V (.slice b0 n0 k0) v.Frames) := fun V hV => hFr.later (FrameR.lasts d) hV
  have HRS : Hid (∀ V : World, Below w.heap.size w V → RdL (d + 1) V (.slice b1 n1 k1) v.Stack) := fun V hV => hSt.later hV
  have HWV : Hid (WfVm d v) := hwv
  have HSZ : Hid (∀ f ∈ v.Frames, WfL (d + 1) f.Slots ∧ f.Slots.length ≤ 1048576 ∧ I64 f.F ∧ I64 f.Pc) := fun f hf => by
    have wf := hwv.1.2 f hf
    obtain ⟨i, hi, e⟩ := List.getElem_of_mem hf
    have h5 := szRow_mem (f := szFrameD d) (xs := v.Frames) (i := i) (x := f) (by rw [List.getElem?_eq_getElem hi, e])
    have h6 := szL_len f.Slots
    have h7 : szFrameD d f = szL (d + 1) f.Slots := rfl
    refine ⟨wf.2.2, ?_, wf.1, wf.2.1⟩
    unfold szVmD at hzv
    omega
  have HCF : Hid (∀ V : World, Below w.heap.size w V → CodeR d V [.slice a0 l0 c0, .slice a1 l1 c1] c) := fun V hV => CodeR.lasts d _ _ _ _ hc hV
  have HZC : Hid (szCodeD d c ≤ 1048576) := hz
  have hC := specCodeOk_any d _ c W (CodeR.lasts d _ _ _ _ hc hA) hwc hz
  rw [hW] at hC
  have HW : Hid (W = _) := hW
  clear hc hwc hz hwv hzv hFr hSt el el1 nA nB hA hW
  go_enter Tryz.func7, Tryz.ntmps7
  go_wp2_with fail
  refine hC.mono ?_
  clear hC
  rintro e V ⟨b', rfl, hb', hB'⟩
  rw [← HW.out] at hB'
  have HBV : Hid (Below W.heap.size W V) := hB'
  have HBw : Hid (Below w.heap.size w V) := HB.out.trans (hB'.mono HB.out.size)
  clear hB' HW
  cases b' with
  | false =>
    have HF : Hid (¬ PP) := by rw [← HPP.out]; exact fun h => by have := hb'.2 h.1; cases this
    clear hb'
    go_wp2_with fail
    go_ret
    exact bres_no HF.out HBw.out
  | true =>
  have HOK : Hid (pCodeOk d c) := hb'.1 rfl
  clear hb'
  have hC := in_call (n0 : Int) 1 40 V
  go_wp2_with fail
  refine hC.mono ?_
  clear hC
  rintro e Z ⟨b2, rfl, hb2, hZ⟩
  subst hZ
  cases b2 with
  | false =>
    have HF : Hid (¬ PP) := by
      rw [← HPP.out]
      exact fun h => by
        have h2 := h.2.1
        rw [HLN.out.1] at h2
        have := hb2.2 ⟨by omega, by omega⟩
        cases this
    clear hb2
    go_wp2_with fail
    go_ret
    exact bres_no HF.out HBw.out
  | true =>
  have hnn1 : 1 ≤ n0 := by have := hb2.1 rfl; omega
  have hnn2 : n0 ≤ 40 := by have := hb2.1 rfl; omega
  clear hb2
  go_wp2_with fail
  go_loopw [6, 7] (fun hs i wr => ∃ (j : Nat) (H : Int), j ≤ n0 ∧ i = .int .i64 j ∧ hs = .int .i64 H ∧ -80 ≤ H ∧ H ≤ 12000 ∧ Hid (H = hiD c v j) ∧ Hid (Below W.heap.size W wr) ∧ Hid (∀ i, i < j → FrP c v i)) (fun _ i _ => n0 - (intOf i).toNat)
  case atStart => exact ⟨0, 0, by omega, rfl, rfl, by omega, by omega, rfl, HBV, fun i hi => by omega⟩
  case round =>
    obtain ⟨j, H, hj, rfl, rfl, hH0, hH1, HHI, HBj, HOJ⟩ := hrel
    have bW : Below w.heap.size w wr := HB.out.trans (HBj.out.mono HB.out.size)
    have HBW : Hid (Below w.heap.size w wr) := bW
    obtain ⟨y0, y1, z0, z1, hwl⟩ := HBX.out wr HBj.out
    have hwl0 : w.heap.size < wr.heap.size := by omega
    by_cases hjl : j < n0
    · obtain ⟨f, hf⟩ : ∃ x, v.Frames[j]? = some x := ⟨_, List.getElem?_eq_getElem (by have := HLN.out.1; omega)⟩
      obtain ⟨b, o, a2, c2, rfl, f0, f1, f2, hrow⟩ := Frame_at (HRF.out wr bW) j f hf
      have hjl' : (j : Int) < (n0 : Int) := by omega
      have hbl : b < wr.heap.size := by have := World.block_lt_of_cell? wr _ f0; simpa using this
      have HX : Hid (v.Frames[j]? = some f) := hf
      obtain ⟨wf1, wf2, wf3, wf4⟩ := HSZ.out f (List.mem_of_getElem? hf)
      have WF : Hid (WfL (d + 1) f.Slots ∧ f.Slots.length ≤ 1048576 ∧ I64 f.Pc) := ⟨wf1, wf2, wf4⟩
      have HS1 : Hid (∀ V : World, Below wr.heap.size wr V → RdL (d + 1) V (.slice a2 f.Slots.length c2) f.Slots) := fun V hV => hrow.later hV
      have hn0 := After.some wr
      have p0 := After.cell y0
      have p1 := After.cell y1
      have p2 := After.cell z0
      have p3 := After.cell f0
      have p4 := After.cell f1
      have p5 := After.cell f2
      clear hf hrow bW wf1 wf2 wf3 wf4 f0 f1 f2
      by_cases hlast : j + 1 = n0
      · have hl1 : decide ((j : Int) + 1 < (n0 : Int)) = false := by simp; omega
        have hl2 : ((j : Int) + 1 == (n0 : Int)) = true := by simp; omega
        have wrj : IntKind.i64.wrap ((j : Int) + 1) = (j : Int) + 1 := wrapI_in _ (by omega)
        go_wp2_with fail
        clear y0 y1 z0 z1 hwl hwl0 hbl
        have hCF : ∀ V : World, Below wr.heap.size wr V → Calls Tryz.prog 27 #[.agg #[.slice a0 l0 c0, .slice a1 l1 c1], .agg #[.int .i64 f.F, .int .i64 f.Pc, .slice a2 f.Slots.length c2], .bool true, .int .i64 (0)] V fun e w' => FrRes (FitF c f ∧ (true = false → CallF c f (0))) (if true then htF c f else htF c f - 1) (hBad c f) V e w' := fun V hV => l10FrameOk_any a0 l0 c0 a1 l1 c1 c f f.F f.Pc a2 f.Slots.length c2 true (0) V rfl rfl (HCF.out V (HBW.out.trans (hV.mono HBW.out.size))) HOK.out HZC.out (HS1.out V hV) WF.out.1 rfl WF.out.2.1 WF.out.2.2
        obtain ⟨hh, hhe⟩ : ∃ x, htF c f = x := ⟨_, rfl⟩
        have HHE : Hid (htF c f = hh) := hhe
        clear hhe
        by_cases hcl : (FitF c f ∧ (true = false → CallF c f (0)))
        · have HFR : Hid (∀ i, i < j + 1 → FrP c v i) := fun i hi => by
            rcases Nat.lt_or_ge i j with q | q
            · exact HOJ.out i q
            · obtain rfl : i = j := by omega
              exact ⟨f, HX.out, hcl.1, fun g hg => by have := (List.getElem?_eq_some_iff.1 hg).1; have := HLN.out.1; omega⟩
          have HCF2 : Hid (∀ V : World, Below wr.heap.size wr V → Calls Tryz.prog 27 #[.agg #[.slice a0 l0 c0, .slice a1 l1 c1], .agg #[.int .i64 f.F, .int .i64 f.Pc, .slice a2 f.Slots.length c2], .bool true, .int .i64 (0)] V fun e w' => e = .returned (.tuple #[.int .i64 hh, .bool true]) ∧ Below V.heap.size V w') := fun V hV => by
            have := fr_det (b := true) ⟨fun _ => hcl, fun _ => rfl⟩ (hCF V hV)
            simp only [if_true] at this
            rw [HHE.out] at this
            exact this
          have hhb : -2 ≤ hh ∧ hh ≤ 300 := by
            obtain ⟨k, p, g, e1, e2, e3, e4, _⟩ := hcl.1
            have := (htF_at HOK.out e1 e2 e3 e4).2
            have h2 := HHE.out
            omega
          have HHN : Hid (H + hh = hiD c v (j + 1)) := by
            show _ = _
            unfold hiD
            rw [tmD_last HX.out (by rw [HLN.out.1]; omega), HHE.out, ← HHI.out]
          have HBN : Hid (-80 ≤ H + hh ∧ H + hh ≤ 12000) := by
            rw [HHN.out]
            have := hiD_bound HOK.out (j + 1) HFR.out
            exact ⟨by omega, by omega⟩
          have hb2 := HBN.out
          obtain ⟨hb20, hb21⟩ := hb2
          obtain ⟨hhb0, hhb1⟩ := hhb
          clear hcl hCF HOJ
          refine wp_region_after (by kernel_rfl) (by kernel_rfl) ?_
          repeat (go_big_quiet_step ((go_at_call 27; (with_reducible exact calls_after (HCF2.out _ (After.bel _))))))
          refine wpQuiet_nil ?_
          rintro _ ⟨nq, rfl⟩
          have HBQ : Hid (Below W.heap.size W nq.now) := HBj.out.trans (nq.bel.mono HBj.out.size)
          clear p0 p1 p2 p3 p4 p5 hn0
          go_wp2_with fail
          go_roundw
          case rel => exact ⟨j + 1, H + hh, by omega, by go_num, (by go_num), HBN.out.1, HBN.out.2, HHN, HBQ, HFR⟩
          case measure => simp [intOf]; omega
        · have HF : Hid (¬ PP) := by
            rw [← HPP.out]
            exact fun h => by
              obtain ⟨f2, e1, e2, e3⟩ := h.2.2.1 j (by have := HLN.out.1; omega)
              rw [HX.out] at e1
              cases e1
              exact hcl ⟨e2, fun h9 => by cases h9⟩
          obtain ⟨bad, hbad⟩ : ∃ x, hBad c f = x := ⟨_, rfl⟩
          have HCF2 : Hid (∀ V : World, Below wr.heap.size wr V → Calls Tryz.prog 27 #[.agg #[.slice a0 l0 c0, .slice a1 l1 c1], .agg #[.int .i64 f.F, .int .i64 f.Pc, .slice a2 f.Slots.length c2], .bool true, .int .i64 (0)] V fun e w' => e = .returned (.tuple #[.int .i64 bad, .bool false]) ∧ Below V.heap.size V w') := fun V hV => by
            have := fr_det (b := false) ⟨(fun h => by cases h), fun h => absurd h hcl⟩ (hCF V hV)
            simp only [if_true, if_false, Bool.false_eq_true] at this
            rw [hbad] at this
            exact this
          clear hcl hCF HOJ hbad
          refine wp_region_after (by kernel_rfl) (by kernel_rfl) ?_
          repeat (go_big_quiet_step ((go_at_call 27; (with_reducible exact calls_after (HCF2.out _ (After.bel _))))))
          refine wpQuiet_nil ?_
          rintro _ ⟨nq, rfl⟩
          have HBQ : Hid (Below w.heap.size w nq.now) := HBW.out.trans (nq.bel.mono HBW.out.size)
          clear p0 p1 p2 p3 p4 p5 hn0
          go_wp2_with fail
          go_ret
          exact bres_no HF.out HBQ.out
      · have hl1 : (j : Int) + 1 < (n0 : Int) := by omega
        have hl2 : ((j : Int) + 1 == (n0 : Int)) = false := by simp; omega
        have wrj : IntKind.i64.wrap ((j : Int) + 1) = (j : Int) + 1 := wrapI_in _ (by omega)
        obtain ⟨f', hf'⟩ : ∃ x, v.Frames[j + 1]? = some x := ⟨_, List.getElem?_eq_getElem (by have := HLN.out.1; omega)⟩
        have HX' : Hid (v.Frames[j + 1]? = some f') := hf'
        obtain ⟨b', o', a2', c2', e1, f0', f1', f2', hrow'⟩ := Frame_at (HRF.out wr HBW.out) (j + 1) f' hf'
        cases e1
        clear hf' f1' f2' hrow'
        go_wp2_with fail
        clear y0 y1 z0 z1 f0' hwl hwl0 hbl
        have hCF : ∀ V : World, Below wr.heap.size wr V → Calls Tryz.prog 27 #[.agg #[.slice a0 l0 c0, .slice a1 l1 c1], .agg #[.int .i64 f.F, .int .i64 f.Pc, .slice a2 f.Slots.length c2], .bool false, .int .i64 (f'.F)] V fun e w' => FrRes (FitF c f ∧ (false = false → CallF c f (f'.F))) (if false then htF c f else htF c f - 1) (hBad c f) V e w' := fun V hV => l10FrameOk_any a0 l0 c0 a1 l1 c1 c f f.F f.Pc a2 f.Slots.length c2 false (f'.F) V rfl rfl (HCF.out V (HBW.out.trans (hV.mono HBW.out.size))) HOK.out HZC.out (HS1.out V hV) WF.out.1 rfl WF.out.2.1 WF.out.2.2
        obtain ⟨hh, hhe⟩ : ∃ x, htF c f - 1 = x := ⟨_, rfl⟩
        have HHE : Hid (htF c f - 1 = hh) := hhe
        clear hhe
        by_cases hcl : (FitF c f ∧ (false = false → CallF c f (f'.F)))
        · have HFR : Hid (∀ i, i < j + 1 → FrP c v i) := fun i hi => by
            rcases Nat.lt_or_ge i j with q | q
            · exact HOJ.out i q
            · obtain rfl : i = j := by omega
              exact ⟨f, HX.out, hcl.1, fun g hg => by rw [HX'.out] at hg; cases hg; exact hcl.2 rfl⟩
          have HCF2 : Hid (∀ V : World, Below wr.heap.size wr V → Calls Tryz.prog 27 #[.agg #[.slice a0 l0 c0, .slice a1 l1 c1], .agg #[.int .i64 f.F, .int .i64 f.Pc, .slice a2 f.Slots.length c2], .bool false, .int .i64 (f'.F)] V fun e w' => e = .returned (.tuple #[.int .i64 hh, .bool true]) ∧ Below V.heap.size V w') := fun V hV => by
            have := fr_det (b := true) ⟨fun _ => hcl, fun _ => rfl⟩ (hCF V hV)
            simp only [if_true, if_false, Bool.false_eq_true] at this
            rw [HHE.out] at this
            exact this
          have hhb : -2 ≤ hh ∧ hh ≤ 300 := by
            obtain ⟨k, p, g, e1, e2, e3, e4, _⟩ := hcl.1
            have := (htF_at HOK.out e1 e2 e3 e4).2
            have h2 := HHE.out
            omega
          have HHN : Hid (H + hh = hiD c v (j + 1)) := by
            show _ = _
            unfold hiD
            rw [tmD_mid HX.out (by rw [HLN.out.1]; omega), HHE.out, ← HHI.out]
          have HBN : Hid (-80 ≤ H + hh ∧ H + hh ≤ 12000) := by
            rw [HHN.out]
            have := hiD_bound HOK.out (j + 1) HFR.out
            exact ⟨by omega, by omega⟩
          have hb2 := HBN.out
          obtain ⟨hb20, hb21⟩ := hb2
          obtain ⟨hhb0, hhb1⟩ := hhb
          clear hcl hCF HOJ
          refine wp_region_after (by kernel_rfl) (by kernel_rfl) ?_
          repeat (go_big_quiet_step ((go_at_call 27; (with_reducible exact calls_after (HCF2.out _ (After.bel _))))))
          refine wpQuiet_nil ?_
          rintro _ ⟨nq, rfl⟩
          have HBQ : Hid (Below W.heap.size W nq.now) := HBj.out.trans (nq.bel.mono HBj.out.size)
          clear p0 p1 p2 p3 p4 p5 hn0
          go_wp2_with fail
          go_roundw
          case rel => exact ⟨j + 1, H + hh, by omega, by go_num, (by go_num), HBN.out.1, HBN.out.2, HHN, HBQ, HFR⟩
          case measure => simp [intOf]; omega
        · have HF : Hid (¬ PP) := by
            rw [← HPP.out]
            exact fun h => by
              obtain ⟨f2, e1, e2, e3⟩ := h.2.2.1 j (by have := HLN.out.1; omega)
              rw [HX.out] at e1
              cases e1
              exact hcl ⟨e2, fun _ => e3 f' HX'.out⟩
          obtain ⟨bad, hbad⟩ : ∃ x, hBad c f = x := ⟨_, rfl⟩
          have HCF2 : Hid (∀ V : World, Below wr.heap.size wr V → Calls Tryz.prog 27 #[.agg #[.slice a0 l0 c0, .slice a1 l1 c1], .agg #[.int .i64 f.F, .int .i64 f.Pc, .slice a2 f.Slots.length c2], .bool false, .int .i64 (f'.F)] V fun e w' => e = .returned (.tuple #[.int .i64 bad, .bool false]) ∧ Below V.heap.size V w') := fun V hV => by
            have := fr_det (b := false) ⟨(fun h => by cases h), fun h => absurd h hcl⟩ (hCF V hV)
            simp only [if_false, Bool.false_eq_true] at this
            rw [hbad] at this
            exact this
          clear hcl hCF HOJ hbad
          refine wp_region_after (by kernel_rfl) (by kernel_rfl) ?_
          repeat (go_big_quiet_step ((go_at_call 27; (with_reducible exact calls_after (HCF2.out _ (After.bel _))))))
          refine wpQuiet_nil ?_
          rintro _ ⟨nq, rfl⟩
          have HBQ : Hid (Below w.heap.size w nq.now) := HBW.out.trans (nq.bel.mono HBW.out.size)
          clear p0 p1 p2 p3 p4 p5 hn0
          go_wp2_with fail
          go_ret
          exact bres_no HF.out HBQ.out
    · obtain rfl : j = n0 := by omega
      have hjl' : decide ((j : Int) < (j : Int)) = false := by simp
      obtain ⟨wo, hwo⟩ : ∃ X, X = wr := ⟨_, rfl⟩
      subst hwo
      have HFR : Hid (∀ i, i < j → FrP c v i) := HOJ.out
      clear bW HOJ
      go_wp2_with fail
      clear y0 y1 z0 z1 hwl hwl0
      go_loopw [11] (fun i wr => ∃ k : Nat, k ≤ n1 ∧ i = .int .i64 k ∧ Hid (Below W.heap.size W wr) ∧ Hid (∀ (i : Nat) (t : Tm (d + 1)), i < k → v.Stack[i]? = some t → RightT d t)) (fun i _ => n1 - (intOf i).toNat)
      case atStart => exact ⟨0, Nat.zero_le _, rfl, HBj, fun i t hi => by omega⟩
      case round =>
        obtain ⟨k, hk, rfl, HBk, HOK2⟩ := hrel
        have HBKw : Hid (Below w.heap.size w wr) := HB.out.trans (HBk.out.mono HB.out.size)
        obtain ⟨y0, y1, z0, z1, hwl⟩ := HBX.out wr HBk.out
        by_cases hkl : k < n1
        · obtain ⟨t, ht⟩ : ∃ t, v.Stack[k]? = some t := ⟨_, List.getElem?_eq_getElem (by have := HLN.out.2; omega)⟩
          obtain ⟨tb, tob, la, ll, lc, rfl, t0, t1, t2, t3, hT⟩ := terms_at (HRS.out wr HBKw.out) k t ht
          have hkl' : (k : Int) < (n1 : Int) := by omega
          have HT : Hid (v.Stack[k]? = some t) := ht
          have hC := specTm_any d _ t wr hT (wf_term HWV.out.2 ht)
          clear ht hT
          go_wp2_with fail
          refine hC.mono ?_
          clear hC
          rintro e' V3 ⟨b3, rfl, hb3, hB3⟩
          have HB3 : Hid (Below W.heap.size W V3) := HBk.out.trans (hB3.mono HBk.out.size)
          have HB4 : Hid (Below w.heap.size w V3) := HBKw.out.trans (hB3.mono HBKw.out.size)
          clear hB3 y0 y1 z0 z1 t0 t1 t2 t3 hwl
          cases b3 with
          | false =>
            have HF : Hid (¬ PP) := by rw [← HPP.out]; exact fun h => by have := hb3.2 (h.2.2.2.2 k t HT.out); cases this
            clear hb3
            go_wp2_with fail
            go_ret
            exact bres_no HF.out HB4.out
          | true =>
            have HN : Hid (∀ (i : Nat) (t : Tm (d + 1)), i < k + 1 → v.Stack[i]? = some t → RightT d t) := fun i y hi hy => by
              rcases Nat.lt_or_ge i k with q | q
              · exact HOK2.out i y q hy
              · obtain rfl : i = k := by omega
                rw [HT.out] at hy
                cases hy
                exact hb3.1 rfl
            clear hb3 HOK2
            go_wp2_with fail
            go_roundw
            case rel => exact ⟨k + 1, by omega, by go_num, HB3, HN⟩
            case measure => simp [intOf]; omega
        · obtain rfl : k = n1 := by omega
          have hkl' : decide ((k : Int) < (k : Int)) = false := by simp
          have HF : Hid (((k : Int) == H) = true ↔ PP) := by
            show _ ↔ _
            rw [beq_iff_eq, ← HPP.out, HHI.out]
            constructor
            · intro h4
              exact ⟨HOK.out, ⟨by rw [HLN.out.1]; exact hnn1, by rw [HLN.out.1]; exact hnn2⟩, by rw [HLN.out.1]; exact HFR.out, by rw [HLN.out.1, HLN.out.2]; exact h4, fun i t hi => HOK2.out i t (by have := (List.getElem?_eq_some_iff.1 hi).1; have := HLN.out.2; omega) hi⟩
            · rintro ⟨_, _, _, h4, _⟩
              rw [HLN.out.1, HLN.out.2] at h4
              exact h4
          clear HOK2
          go_wp2_with fail
          go_ret
          exact ⟨_, rfl, HF.out, HBKw.out⟩

end Go.Proofs.YtkkdnkdkelligaaGreatDoor
