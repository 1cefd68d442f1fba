/- A machine, whether it is right: the program's. -/
import Derived.Test.YtkkdnkdkelligaaGreatDoorVp2M
import Derived.Test.YtkkdnkdkelligaaGreatDoorCk10M
import Derived.Test.YtkkdnkdkelligaaGreatDoorOkM
namespace Go.Proofs.YtkkdnkdkelligaaGreatDoor
open Go.RowKit
set_option linter.unusedVariables false

theorem tmD_last {d e : Nat} {c : DCode d} {v : DVm e} {i : Nat} {f : DFrame e} (hf : v.Frames[i]? = some f) (h : i + 1 = v.Frames.length) : tmD c v i = htF c f := by unfold tmD; rw [hf]; simp only; rw [if_neg (by omega)]
theorem tmD_mid {d e : Nat} {c : DCode d} {v : DVm e} {i : Nat} {f : DFrame e} (hf : v.Frames[i]? = some f) (h : i + 1 < v.Frames.length) : tmD c v i = htF c f - 1 := by unfold tmD; rw [hf]; simp only; rw [if_pos h]
theorem bres_det {P : Prop} {f : FuncId} {args : Array Value} {w : World} {b : Bool} (hb : b = true ↔ P) (h : Calls Tryz.prog f args w fun e w' => BRes P w e w') : Calls Tryz.prog f args w fun e w' => e = .returned (.bool b) ∧ Below w.heap.size w w' :=
  h.mono fun e w' hh => by
    obtain ⟨b', rfl, hb', hB⟩ := hh
    refine ⟨?_, hB⟩
    have : b' = b := by
      cases b' <;> cases b
      · rfl
      · exact absurd (hb'.2 (hb.1 rfl)) (by decide)
      · exact absurd (hb.2 (hb'.1 rfl)) (by decide)
      · rfl
    rw [this]

set_option maxRecDepth 100000 in
set_option maxHeartbeats 4000000 in
theorem implVmOk_any (d : Nat) (vs0 : List Value) (c : DCode d) (vs1 : List Value) (v : DVm d) (w : World) (hc : CodeR d w vs0 c) (hwc : WfCode d c) (hz : szCodeD d c ≤ 1048576) (hv : VmR d w vs1 v) (hwv : WfVm d v) (hzv : szVmD d v ≤ 1048576) (ht : ShOk w) :
    Calls Tryz.prog 10 #[.agg vs0.toArray, .agg vs1.toArray] w fun e w' => BRes (pVmOk c v) w e w' := by
  obtain ⟨a0, l0, c0, a1, l1, c1, rfl⟩ := CodeR.shape _ _ _ _ hc
  obtain ⟨b0, n0, k0, b1, n1, k1, rfl⟩ := VmR.shape d _ _ _ hv
  obtain ⟨PP, hPP⟩ : ∃ Q : Prop, pVmOk c v = Q := ⟨_, rfl⟩
  have HPP : Hid (pVmOk c v = PP) := hPP
  rw [hPP]
  clear hPP
  obtain ⟨v0, v1, e0, hFr, hSt⟩ := hv
  simp only [List.cons.injEq, and_true] at e0
  obtain ⟨rfl, rfl⟩ := e0
  obtain ⟨aa, cc, ee⟩ := hFr.slice
  simp only [Value.slice.injEq] at ee
  obtain ⟨-, el, -⟩ := ee
  obtain ⟨aa, cc, ee⟩ := hSt.len1
  simp only [Value.slice.injEq] at ee
  obtain ⟨-, el1, -⟩ := ee
  have HLN : Hid (v.Frames.length = n0 ∧ v.Stack.length = n1) := ⟨el.symm, el1.symm⟩
  have hn1b : n1 ≤ 1048576 := by have := szL_len v.Stack; unfold szVmD at hzv; omega
  have hn0b : n0 ≤ 1048576 := by have := szRow_len (szFrameD d) v.Frames; unfold szVmD at hzv; omega
  obtain ⟨W, hW⟩ : ∃ W, W = (w.alloc (.cells #[.slice a0 l0 c0, .slice a1 l1 c1] 36)).alloc (.cells #[.slice b0 n0 k0, .slice b1 n1 k1] 41) := ⟨_, rfl⟩
  have hA : Below w.heap.size w W := by rw [hW]; exact ((Below.refl _ _).alloc (Nat.le_refl _) _).alloc (by simp) _
  have nB : W.heap[w.heap.size + 1]? = some (.cells #[.slice b0 n0 k0, .slice b1 n1 k1] 41 (0, 0)) := by
    rw [hW, show w.heap.size + 1 = (w.alloc (.cells #[.slice a0 l0 c0, .slice a1 l1 c1] 36)).heap.size from by simp]; exact heap_alloc_new _ _
  have nA : W.heap[w.heap.size]? = some (.cells #[.slice a0 l0 c0, .slice a1 l1 c1] 36 (0, 0)) := by
    rw [hW, (((Below.refl _ _).alloc (Nat.le_refl _) _).block w.heap.size (by simp))]; exact heap_alloc_new _ _
  have HB : Hid (Below w.heap.size w W) := hA
  have HBX : Hid (∀ V : World, Below W.heap.size W V → V.cell? ⟨w.heap.size, 0, none⟩ = some (.slice a0 l0 c0) ∧ V.cell? ⟨w.heap.size, 1, none⟩ = some (.slice a1 l1 c1) ∧ V.cell? ⟨w.heap.size + 1, 0, none⟩ = some (.slice b0 n0 k0) ∧ V.cell? ⟨w.heap.size + 1, 1, none⟩ = some (.slice b1 n1 k1) ∧ w.heap.size + 1 < V.heap.size) := fun V hV => by
    have mA := (hV.block _ (lt_row nA)).trans nA
    have mB := (hV.block _ (lt_row nB)).trans nB
    exact ⟨by rw [cell_of_row V _ 0 _ _ _ mA]; rfl, by rw [cell_of_row V _ 1 _ _ _ mA]; rfl, by rw [cell_of_row V _ 0 _ _ _ mB]; rfl, by rw [cell_of_row V _ 1 _ _ _ mB]; rfl, lt_row mB⟩
  have HRF : Hid (∀ V : World, Below w.heap.size w V → RowOf 3 (FrameR d) V (.slice b0 n0 k0) v.Frames) := fun V hV => hFr.later (FrameR.lasts d) hV
  have HRS : Hid (∀ V : World, Below w.heap.size w V → RdL (d + 1) V (.slice b1 n1 k1) v.Stack) := fun V hV => hSt.later hV
  have HWV : Hid (WfVm d v) := hwv
  have HSZ : Hid (∀ f ∈ v.Frames, WfL (d + 1) f.Slots ∧ f.Slots.length ≤ 1048576 ∧ I64 f.F ∧ I64 f.Pc) := fun f hf => by
    have wf := hwv.1.2 f hf
    obtain ⟨i, hi, e⟩ := List.getElem_of_mem hf
    have h5 := szRow_mem (f := szFrameD d) (xs := v.Frames) (i := i) (x := f) (by rw [List.getElem?_eq_getElem hi, e])
    have h6 := szL_len f.Slots
    have h7 : szFrameD d f = szL (d + 1) f.Slots := rfl
    refine ⟨wf.2.2, ?_, wf.1, wf.2.1⟩
    unfold szVmD at hzv
    omega
  have HCF : Hid (∀ V : World, Below w.heap.size w V → CodeR d V [.slice a0 l0 c0, .slice a1 l1 c1] c) := fun V hV => CodeR.lasts d _ _ _ _ hc hV
  have HZC : Hid (szCodeD d c ≤ 1048576) := hz
  have hC := implCodeOk_any d _ c W (CodeR.lasts d _ _ _ _ hc hA) hwc hz (ht.later hA)
  rw [hW] at hC
  have HW : Hid (W = _) := hW
  clear hc hwc hz hwv hzv ht hFr hSt el el1 nA nB hA hW
  go_enter Tryz.func10, Tryz.ntmps10
  go_wp2_with fail
  refine hC.mono ?_
  clear hC
  rintro e V ⟨b', rfl, hb', hB'⟩
  rw [← HW.out] at hB'
  have HBV : Hid (Below W.heap.size W V) := hB'
  have HBw : Hid (Below w.heap.size w V) := HB.out.trans (hB'.mono HB.out.size)
  obtain ⟨y0, y1, z0, z1, hVl⟩ := HBX.out V hB'
  clear hB' HW
  cases b' with
  | false =>
    have HF : Hid (¬ PP) := by rw [← HPP.out]; exact fun h => by have := hb'.2 h.1; cases this
    clear hb'
    go_wp2_with fail
    go_ret
    exact bres_no HF.out HBw.out
  | true =>
  have HOK : Hid (pCodeOk d c) := hb'.1 rfl
  clear hb'
  by_cases m0 : n0 < 1
  · have HF : Hid (¬ PP) := by rw [← HPP.out]; exact fun h => by have := h.2.1.1; have := HLN.out.1; omega
    have m0' : (n0 : Int) < 1 := by omega
    go_wp2_with fail
    go_ret
    exact bres_no HF.out HBw.out
  have m0' : decide ((n0 : Int) < 1) = false := by simp; omega
  by_cases m1 : 40 < n0
  · have HF : Hid (¬ PP) := by rw [← HPP.out]; exact fun h => by have := h.2.1.2; have := HLN.out.1; omega
    have m1' : 40 < (n0 : Int) := by omega
    go_wp2_with fail
    go_ret
    exact bres_no HF.out HBw.out
  have m1' : decide (40 < (n0 : Int)) = false := by simp; omega
  have hnn1 : 1 ≤ n0 := by omega
  have hnn2 : n0 ≤ 40 := by omega
  clear m0 m1
  go_wp2_with fail
  clear m0' m1' y0 y1 z0 z1 hVl
  go_loopw [5, 26] (fun hs i wr => ∃ (j : Nat) (H : Int), j < n0 ∧ i = .int .i64 j ∧ hs = .int .i64 H ∧ -80 ≤ H ∧ H ≤ 12000 ∧ Hid (H = hiD c v j) ∧ Hid (Below W.heap.size W wr) ∧ Hid (∀ i, i < j → FrP c v i)) (fun _ i _ => n0 - (intOf i).toNat)
  case atStart => exact ⟨0, 0, by omega, rfl, rfl, by omega, by omega, rfl, HBV, fun i hi => by omega⟩
  case round =>
    obtain ⟨j, H, hj, rfl, rfl, hH0, hH1, HHI, HBj, HOJ⟩ := hrel
    have bW : Below w.heap.size w wr := HB.out.trans (HBj.out.mono HB.out.size)
    have HBW : Hid (Below w.heap.size w wr) := bW
    obtain ⟨y0, y1, z0, z1, hwl⟩ := HBX.out wr HBj.out
    have hwl0 : w.heap.size < wr.heap.size := by omega
    obtain ⟨f, hf⟩ : ∃ x, v.Frames[j]? = some x := ⟨_, List.getElem?_eq_getElem (by have := HLN.out.1; omega)⟩
    obtain ⟨b, o, a2, c2, rfl, f0, f1, f2, hrow⟩ := Frame_at (HRF.out wr bW) j f hf
    have hjl' : (j : Int) < (n0 : Int) := by omega
    have hbl : b < wr.heap.size := by have := World.block_lt_of_cell? wr _ f0; simpa using this
    have HX : Hid (v.Frames[j]? = some f) := hf
    obtain ⟨wf1, wf2, wf3, wf4⟩ := HSZ.out f (List.mem_of_getElem? hf)
    have HS1 : Hid (∀ V : World, Below wr.heap.size wr V → RdL (d + 1) V (.slice a2 f.Slots.length c2) f.Slots) := fun V hV => hrow.later hV
    have bA : Below wr.heap.size wr (wr.alloc (.cells #[.int .i64 f.F, .int .i64 f.Pc, .slice a2 f.Slots.length c2] 61)) := (Below.refl _ _).alloc (Nat.le_refl _) _
    have nF : (wr.alloc (.cells #[.int .i64 f.F, .int .i64 f.Pc, .slice a2 f.Slots.length c2] 61)).heap[wr.heap.size]? = some (.cells #[.int .i64 f.F, .int .i64 f.Pc, .slice a2 f.Slots.length c2] 61 (0, 0)) := heap_alloc_new _ _
    obtain ⟨X, hX⟩ : ∃ X, wr.alloc (.cells #[.int .i64 f.F, .int .i64 f.Pc, .slice a2 f.Slots.length c2] 61) = X := ⟨_, rfl⟩
    rw [hX] at bA nF
    have HXr : Hid (Below wr.heap.size wr X) := bA
    have HXW : Hid (Below W.heap.size W X) := HBj.out.trans (bA.mono HBj.out.size)
    have HXw : Hid (Below w.heap.size w X) := bW.trans (bA.mono bW.size)
    have HFX : Hid (∀ V : World, Below X.heap.size X V → V.cell? ⟨wr.heap.size, 0, none⟩ = some (.int .i64 f.F) ∧ V.cell? ⟨wr.heap.size, 1, none⟩ = some (.int .i64 f.Pc) ∧ V.cell? ⟨wr.heap.size, 2, none⟩ = some (.slice a2 f.Slots.length c2) ∧ wr.heap.size < V.heap.size) := fun V hV => by
      have mF := (hV.block _ (lt_row nF)).trans nF
      exact ⟨by rw [cell_of_row V _ 0 _ _ _ mF]; rfl, by rw [cell_of_row V _ 1 _ _ _ mF]; rfl, by rw [cell_of_row V _ 2 _ _ _ mF]; rfl, lt_row mF⟩
    have HCC : Hid (∀ V : World, Below X.heap.size X V → CodeR d V [.slice a0 l0 c0, .slice a1 l1 c1] c) := fun V hV => HCF.out V (HXw.out.trans (hV.mono HXw.out.size))
    have hC := frameFits_any a0 l0 c0 a1 l1 c1 c f f.F f.Pc a2 f.Slots.length c2 X rfl rfl (HCC.out X (Below.refl _ _)) HZC.out (HS1.out X HXr.out) wf1 rfl wf2
    rw [← hX] at hC
    have HXE : Hid (wr.alloc _ = X) := hX
    clear hf hrow bA nF hX bW wf1 wf2 wf3 wf4
    go_wp2_with fail
    refine hC.mono ?_
    clear hC
    rintro e V ⟨b1', rfl, hb1, hB1⟩
    rw [HXE.out] at hB1
    have HV1 : Hid (Below X.heap.size X V) := hB1
    have HVW : Hid (Below W.heap.size W V) := HXW.out.trans (hB1.mono HXW.out.size)
    have HVw : Hid (Below w.heap.size w V) := HXw.out.trans (hB1.mono HXw.out.size)
    clear hB1 y0 y1 z0 z1 hwl hwl0 f0 f1 f2 hbl HXE
    cases b1' with
    | false =>
      have HF : Hid (¬ PP) := by
        rw [← HPP.out]
        exact fun h => by
          obtain ⟨f', e1, e2, _⟩ := h.2.2.1 j (by have := HLN.out.1; omega)
          rw [HX.out] at e1
          cases e1
          have := hb1.2 e2
          cases this
      clear hb1
      go_wp2_with fail
      go_ret
      exact bres_no HF.out HVw.out
    | true =>
    have HFIT : Hid (FitF c f) := hb1.1 rfl
    clear hb1
    have hhb : -1 ≤ htF c f ∧ htF c f ≤ 300 := by
      obtain ⟨k, p, g, e1, e2, e3, e4, _⟩ := HFIT.out
      exact (htF_at HOK.out e1 e2 e3 e4).2
    have hC := heightAt_any a0 l0 c0 a1 l1 c1 c f f.F f.Pc a2 f.Slots.length c2 V rfl rfl (HCC.out V HV1.out) HOK.out HZC.out HFIT.out
    obtain ⟨hh, hhe⟩ : ∃ x, htF c f = x := ⟨_, rfl⟩
    have HHE : Hid (htF c f = hh) := hhe
    rw [hhe] at hC hhb
    obtain ⟨y0, y1, z0, z1, hwl⟩ := HBX.out V HVW.out
    obtain ⟨f0, f1, f2, hfl⟩ := HFX.out V HV1.out
    obtain ⟨hh0, hh1⟩ := hhb
    clear hhe
    go_wp2_with fail
    refine hC.mono ?_
    clear hC
    rintro e V2 ⟨rfl, hB2⟩
    have HV2 : Hid (Below X.heap.size X V2) := HV1.out.trans (hB2.mono HV1.out.size)
    have HV2W : Hid (Below W.heap.size W V2) := HVW.out.trans (hB2.mono HVW.out.size)
    have HV2w : Hid (Below w.heap.size w V2) := HVw.out.trans (hB2.mono HVw.out.size)
    clear hB2 y0 y1 z0 z1 hwl f0 f1 f2 hfl
    obtain ⟨y0, y1, z0, z1, hwl⟩ := HBX.out V2 HV2W.out
    obtain ⟨f0, f1, f2, hfl⟩ := HFX.out V2 HV2.out
    obtain ⟨H2, hH2⟩ : ∃ x, H + hh = x := ⟨_, rfl⟩
    have hs1 : wrap64 (H + hh) = H2 := by rw [← hH2]; exact wrap64_in _ (by omega)
    have hs0 : IntKind.i64.wrap (H + hh) = H2 := by rw [← hH2]; exact wrapI_in _ (by omega)
    have HSUM : Hid (H + hh = H2) := hH2
    have hH20 : -100 ≤ H2 := by omega
    have hH21 : H2 ≤ 13000 := by omega
    by_cases hlast : j + 1 = n0
    · have hl1 : ((j : Int) == (n0 : Int) - 1) = true := by simp; omega
      have HFR : Hid (∀ i, i < n0 → FrP c v i) := fun i hi => by
        rcases Nat.lt_or_ge i j with q | q
        · exact HOJ.out i q
        · obtain rfl : i = j := by omega
          exact ⟨f, HX.out, HFIT.out, fun g hg => by have := (List.getElem?_eq_some_iff.1 hg).1; have := HLN.out.1; omega⟩
      have HHN : Hid (H2 = hiD c v n0) := by
        show _ = _
        rw [← hlast]
        unfold hiD
        rw [tmD_last HX.out (by rw [HLN.out.1]; exact hlast), HHE.out, ← HHI.out]
        exact HSUM.out.symm
      have hC := allRight_any d b1 n1 k1 v.Stack V2 (HRS.out V2 HV2w.out) HWV.out.2 HLN.out.2 hn1b
      obtain ⟨QQ, hQQ⟩ : ∃ Q : Prop, (∀ (i : Nat) (t : Tm (d + 1)), v.Stack[i]? = some t → RightT d t) = Q := ⟨_, rfl⟩
      have HQQ : Hid ((∀ (i : Nat) (t : Tm (d + 1)), v.Stack[i]? = some t → RightT d t) = QQ) := hQQ
      rw [hQQ] at hC
      have HPM : Hid (PP ↔ (n1 : Int) = H2 ∧ QQ) := by
        rw [← HPP.out, ← HQQ.out, HHN.out]
        constructor
        · rintro ⟨_, _, _, h4, h5⟩
          rw [HLN.out.1, HLN.out.2] at h4
          exact ⟨h4, h5⟩
        · rintro ⟨h4, h5⟩
          exact ⟨HOK.out, ⟨by rw [HLN.out.1]; exact hnn1, by rw [HLN.out.1]; exact hnn2⟩, by rw [HLN.out.1]; exact HFR.out, by rw [HLN.out.1, HLN.out.2]; exact h4, h5⟩
      clear hQQ hH2 hlast HOJ
      by_cases hst : (n1 : Int) = H2
      · have hst' : ((n1 : Int) == H2) = true := by simp [hst]
        have HST : Hid ((n1 : Int) = H2) := hst
        clear hst
        go_wp2_with fail
        refine hC.mono ?_
        clear hC
        rintro e V3 ⟨b3, rfl, hb3, hB3⟩
        have HB3 : Hid (Below w.heap.size w V3) := HV2w.out.trans (hB3.mono HV2w.out.size)
        have HF : Hid (b3 = true ↔ PP) := by
          show _ ↔ _
          rw [HPM.out, hb3]
          exact ⟨fun h => ⟨HST.out, h⟩, fun h => h.2⟩
        clear hb3 hB3
        go_wp2_with fail
        go_ret
        exact ⟨_, rfl, HF.out, HB3.out⟩
      · have hst' : ((n1 : Int) == H2) = false := by simp [hst]
        have HF : Hid (¬ PP) := fun h => hst (HPM.out.1 h).1
        clear hst hC
        go_wp2_with fail
        go_ret
        exact bres_no HF.out HV2w.out
    · have hl1 : ((j : Int) == (n0 : Int) - 1) = false := by simp; omega
      obtain ⟨m, hm⟩ : ∃ m, j + 1 = m := ⟨_, rfl⟩
      have hmn : m < n0 := by omega
      have hmn' : (m : Int) < (n0 : Int) := by omega
      obtain ⟨f', hf'⟩ : ∃ x, v.Frames[m]? = some x := ⟨_, List.getElem?_eq_getElem (by have := HLN.out.1; omega)⟩
      have HX' : Hid (v.Frames[j + 1]? = some f') := by rw [hm]; exact hf'
      have wrj : IntKind.i64.wrap ((j : Int) + 1) = (m : Int) := by rw [wrapI_in _ (by omega)]; omega
      obtain ⟨b', o', a2', c2', e1, f0', f1', f2', hrow'⟩ := Frame_at (HRF.out V2 HV2w.out) m f' hf'
      cases e1
      have hbl' : b < V2.heap.size := by have := World.block_lt_of_cell? V2 _ f0'; simpa using this
      have hCF : ∀ V : World, Below X.heap.size X V → _ := fun V hV => isBehindCall_any a0 l0 c0 a1 l1 c1 c f f.F f.Pc a2 f.Slots.length c2 f'.F V rfl rfl (HCC.out V hV) HZC.out HFIT.out
      have hn0 := After.some V2
      have p0 := After.cell y0
      have p1 := After.cell y1
      have p2 := After.cell z0
      have p3 := After.cell f0
      have p4 := After.cell f1
      have p5 := After.cell f2
      have p6 := After.cell f0'
      go_wp2_with fail
      clear y0 y1 z0 z1 f0 f1 f2 f0' f1' f2' hrow' hf' hwl hfl hbl' hH2 hs1 hs0
      by_cases hcl : CallF c f f'.F
      · have HCF2 : Hid (∀ V : World, Below V2.heap.size V2 V → Calls Tryz.prog 35 #[.agg #[.slice a0 l0 c0, .slice a1 l1 c1], .agg #[.int .i64 f.F, .int .i64 f.Pc, .slice a2 f.Slots.length c2], .int .i64 f'.F] V fun e w' => e = .returned (.bool true) ∧ Below V.heap.size V w') := fun V hV => bres_det (b := true) ⟨fun _ => hcl, fun _ => rfl⟩ (hCF V (HV2.out.trans (hV.mono HV2.out.size)))
        have HFR : Hid (∀ i, i < j + 1 → FrP c v i) := fun i hi => by
          rcases Nat.lt_or_ge i j with q | q
          · exact HOJ.out i q
          · obtain rfl : i = j := by omega
            exact ⟨f, HX.out, HFIT.out, fun g hg => by rw [HX'.out] at hg; cases hg; exact hcl⟩
        have HHN : Hid (H2 - 1 = hiD c v (j + 1)) := by
          show _ = _
          unfold hiD
          rw [tmD_mid HX.out (by rw [HLN.out.1]; omega), HHE.out, ← HHI.out, ← HSUM.out]
          omega
        have HBN : Hid (-80 ≤ H2 - 1 ∧ H2 - 1 ≤ 12000) := by
          rw [HHN.out]
          have := hiD_bound HOK.out (j + 1) HFR.out
          exact ⟨by omega, by omega⟩
        have wrH : IntKind.i64.wrap (H2 - 1) = H2 - 1 := wrapI_in _ (by omega)
        have wrH2 : wrap64 (H2 - 1) = H2 - 1 := wrap64_in _ (by omega)
        clear hcl hCF HOJ
        refine wp_region_after (by kernel_rfl) (by kernel_rfl) ?_
        repeat (go_big_quiet_step ((go_at_call 35; (with_reducible exact calls_after (HCF2.out _ (After.bel _))))))
        refine wpQuiet_nil ?_
        rintro _ ⟨nq, rfl⟩
        have HBQ : Hid (Below W.heap.size W nq.now) := HV2W.out.trans (nq.bel.mono HV2W.out.size)
        clear p0 p1 p2 p3 p4 p5 p6 hn0
        go_wp2_with fail
        go_roundw
        case rel => exact ⟨j + 1, H2 - 1, by omega, by go_num, rfl, HBN.out.1, HBN.out.2, HHN, HBQ, HFR⟩
        case measure => simp [intOf]; omega
      · have HCF2 : Hid (∀ V : World, Below V2.heap.size V2 V → Calls Tryz.prog 35 #[.agg #[.slice a0 l0 c0, .slice a1 l1 c1], .agg #[.int .i64 f.F, .int .i64 f.Pc, .slice a2 f.Slots.length c2], .int .i64 f'.F] V fun e w' => e = .returned (.bool false) ∧ Below V.heap.size V w') := fun V hV => bres_det (b := false) ⟨(fun h => by cases h), fun h => absurd h hcl⟩ (hCF V (HV2.out.trans (hV.mono HV2.out.size)))
        have HF : Hid (¬ PP) := by
          rw [← HPP.out]
          exact fun h => by
            obtain ⟨f2, e1, _, e3⟩ := h.2.2.1 j (by have := HLN.out.1; omega)
            rw [HX.out] at e1
            cases e1
            exact hcl (e3 f' HX'.out)
        clear hcl hCF HOJ
        refine wp_region_after (by kernel_rfl) (by kernel_rfl) ?_
        repeat (go_big_quiet_step ((go_at_call 35; (with_reducible exact calls_after (HCF2.out _ (After.bel _))))))
        refine wpQuiet_nil ?_
        rintro _ ⟨nq, rfl⟩
        have HBQ : Hid (Below w.heap.size w nq.now) := HV2w.out.trans (nq.bel.mono HV2w.out.size)
        clear p0 p1 p2 p3 p4 p5 p6 hn0
        go_wp2_with fail
        go_ret
        exact bres_no HF.out HBQ.out

end Go.Proofs.YtkkdnkdkelligaaGreatDoor
