/- A frame: whether it is right, and how high it is: the model's. -/
import Derived.Test.YtkkdnkdkelligaaGreatDoorVo1M
import Derived.Test.YtkkdnkdkelligaaGreatDoorDt0M
import Derived.Test.YtkkdnkdkelligaaGreatDoorCs3M
namespace Go.Proofs.YtkkdnkdkelligaaGreatDoor
open Go.RowKit
set_option linter.unusedVariables false

open Classical in
/-- What is told of the height of a frame that is not right. -/
noncomputable def hBad {d e : Nat} (c : DCode d) (f : DFrame e) : Int := if FitF c f then match c.Fns[f.F.toNat]?, f.Pc.toNat with | some g, p + 1 => (match (htsD g)[p]?, g.Ins[p]? with | some h, some x => wrap64 (h - x.N) | _, _ => 0) | _, _ => 0 else 0
theorem hBad_no {d e : Nat} {c : DCode d} {f : DFrame e} (h : ¬ FitF c f) : (0 : Int) = hBad c f := by unfold hBad; rw [if_neg h]
theorem hBad_zero {d e : Nat} {c : DCode d} {f : DFrame e} (h : f.Pc = 0) : (0 : Int) = hBad c f := by
  unfold hBad
  split
  · rw [h]
    cases c.Fns[f.F.toNat]? <;> rfl
  · rfl
theorem hBad_at {d e : Nat} {c : DCode d} {f : DFrame e} {k p : Nat} {g : DFn} {x : DIns} {h : Int} (hf : FitF c f) (hk : f.F = k) (hg : c.Fns[k]? = some g) (hp : f.Pc = ((p + 1 : Nat) : Int)) (hx : g.Ins[p]? = some x) (hh : (htsD g)[p]? = some h) : wrap64 (h - x.N) = hBad c f := by
  unfold hBad
  rw [if_pos hf, hk, hp]
  simp [hg, hx, hh]

def FrRes (P : Prop) (h hb : Int) (w : World) (e : Ending) (w' : World) : Prop := ∃ (r : Int) (b : Bool), e = .returned (.tuple #[.int .i64 r, .bool b]) ∧ (b = true ↔ P) ∧ (b = true → r = h) ∧ (b = false → r = hb) ∧ Below w.heap.size w w'
theorem fr_yes {P : Prop} {h hb r : Int} {w w' : World} (hp : P) (hr : r = h) (hB : Below w.heap.size w w') : FrRes P h hb w (.returned (.tuple #[.int .i64 r, .bool true])) w' := ⟨r, true, rfl, ⟨fun _ => hp, fun _ => rfl⟩, fun _ => hr, (fun e => by cases e), hB⟩
theorem fr_no {P : Prop} {h hb r : Int} {w w' : World} (hp : ¬ P) (hr : r = hb) (hB : Below w.heap.size w w') : FrRes P h hb w (.returned (.tuple #[.int .i64 r, .bool false])) w' := ⟨r, false, rfl, ⟨(fun e => by cases e), fun p => absurd p hp⟩, (fun e => by cases e), fun _ => hr, hB⟩
theorem wrap_both (n : Int) : IntKind.i64.wrap n = wrap64 n := by rw [IntKind.wrap_i64]; unfold wrap64; omega
theorem in_after (x a b : Int) (w : World) : Calls Tryz.prog 26 #[.int .i64 x, .int .i64 a, .int .i64 b] w fun e w' => e = .returned (.bool (inI x a b)) ∧ Below w.heap.size w w' := (inI_any x a b w).mono fun e w' h => ⟨h.1, by rw [← h.2]; exact Below.refl _ _⟩

set_option maxRecDepth 100000 in
set_option maxHeartbeats 4000000 in
theorem l10FrameOk_any {d e : Nat} (a0 : Option Addr) (l0 c0 : Nat) (a1 : Option Addr) (l1 c1 : Nat) (c : DCode d) (f : DFrame e) (F P : Int) (sa : Option Addr) (sl sc : Nat) (last : Bool) (nx : Int) (w : World)
    (hFe : f.F = F) (hPe : f.Pc = P) (hc : CodeR d w [.slice a0 l0 c0, .slice a1 l1 c1] c) (hok : pCodeOk d c) (hz : szCodeD d c ≤ 1048576) (hs : RdL (e + 1) w (.slice sa sl sc) f.Slots) (hw : WfL (e + 1) f.Slots) (hsl : f.Slots.length = sl) (hsz : sl ≤ 1048576) (hPb : I64 P) :
    Calls Tryz.prog 27 #[.agg #[.slice a0 l0 c0, .slice a1 l1 c1], .agg #[.int .i64 F, .int .i64 P, .slice sa sl sc], .bool last, .int .i64 nx] w fun e w' => FrRes (FitF c f ∧ (last = false → CallF c f nx)) (if last then htF c f else htF c f - 1) (hBad c f) w e w' := by
  obtain ⟨PP, hPP⟩ : ∃ Q : Prop, (FitF c f ∧ (last = false → CallF c f nx)) = Q := ⟨_, rfl⟩
  have HPP : Hid ((FitF c f ∧ (last = false → CallF c f nx)) = PP) := hPP
  obtain ⟨RR, hRR⟩ : ∃ r, (if last then htF c f else htF c f - 1) = r := ⟨_, rfl⟩
  have HRR : Hid ((if last then htF c f else htF c f - 1) = RR) := hRR
  obtain ⟨BB, hBB⟩ : ∃ r, hBad c f = r := ⟨_, rfl⟩
  have HBB : Hid (hBad c f = BB) := hBB
  rw [hPP, hRR, hBB]
  clear hPP hRR hBB
  have hcc := hc
  obtain ⟨w0, w1, e0, hF, hP⟩ := hcc
  simp only [List.cons.injEq, and_true] at e0
  obtain ⟨rfl, rfl⟩ := e0
  obtain ⟨aa, cc, ee⟩ := hF.slice
  simp only [Value.slice.injEq] at ee
  obtain ⟨-, el, -⟩ := ee
  have HLN : Hid (c.Fns.length = l0 ∧ l0 ≤ 1048576) := ⟨el.symm, by have := szRow_len szFnD c.Fns; unfold szCodeD at hz; omega⟩
  have hl0 : l0 ≤ 1048576 := HLN.out.2
  obtain ⟨W, hW⟩ : ∃ W, W = (w.alloc (.cells #[.slice a0 l0 c0, .slice a1 l1 c1] 36)).alloc (.cells #[.int .i64 F, .int .i64 P, .slice sa sl sc] 61) := ⟨_, rfl⟩
  have hA : Below w.heap.size w W := by rw [hW]; exact ((Below.refl _ _).alloc (Nat.le_refl _) _).alloc (by simp) _
  have nB : W.heap[w.heap.size + 1]? = some (.cells #[.int .i64 F, .int .i64 P, .slice sa sl sc] 61 (0, 0)) := by
    rw [hW, show w.heap.size + 1 = (w.alloc (.cells #[.slice a0 l0 c0, .slice a1 l1 c1] 36)).heap.size from by simp]; exact heap_alloc_new _ _
  have nA : W.heap[w.heap.size]? = some (.cells #[.slice a0 l0 c0, .slice a1 l1 c1] 36 (0, 0)) := by
    rw [hW, (((Below.refl _ _).alloc (Nat.le_refl _) _).block w.heap.size (by simp))]; exact heap_alloc_new _ _
  have HB : Hid (Below w.heap.size w W) := hA
  have HBX : Hid (∀ V : World, Below W.heap.size W V → V.cell? ⟨w.heap.size, 0, none⟩ = some (.slice a0 l0 c0) ∧ V.cell? ⟨w.heap.size, 1, none⟩ = some (.slice a1 l1 c1) ∧ V.cell? ⟨w.heap.size + 1, 0, none⟩ = some (.int .i64 F) ∧ V.cell? ⟨w.heap.size + 1, 1, none⟩ = some (.int .i64 P) ∧ V.cell? ⟨w.heap.size + 1, 2, none⟩ = some (.slice sa sl sc) ∧ w.heap.size + 1 < V.heap.size) := fun V hV => by
    have mA := (hV.block _ (lt_row nA)).trans nA
    have mB := (hV.block _ (lt_row nB)).trans nB
    exact ⟨by rw [cell_of_row V _ 0 _ _ _ mA]; rfl, by rw [cell_of_row V _ 1 _ _ _ mA]; rfl, by rw [cell_of_row V _ 0 _ _ _ mB]; rfl, by rw [cell_of_row V _ 1 _ _ _ mB]; rfl, by rw [cell_of_row V _ 2 _ _ _ mB]; rfl, lt_row mB⟩
  have HFE : Hid (f.F = F ∧ f.Pc = P ∧ f.Slots.length = sl) := ⟨hFe, hPe, hsl⟩
  have HIN : Hid (∀ (x a b : Int) (V : World), Calls Tryz.prog 26 #[.int .i64 x, .int .i64 a, .int .i64 b] V fun e w' => e = .returned (.bool (inI x a b)) ∧ Below V.heap.size V w') := in_after
  have HRW : Hid (∀ V : World, Below w.heap.size w V → RowOf 4 FnR V (.slice a0 l0 c0) c.Fns) := fun V hV => hF.later FnR.lasts hV
  have HSR : Hid (∀ V : World, Below w.heap.size w V → RdL (e + 1) V (.slice sa sl sc) f.Slots) := fun V hV => hs.later hV
  have HWF : Hid (WfL (e + 1) f.Slots) := hw
  have HOK : Hid (pCodeOk d c) := hok
  have HFA : Hid (∀ V : World, Below w.heap.size w V → ∀ s : ByteArray, Calls Tryz.prog 41 #[.agg #[.slice a0 l0 c0, .slice a1 l1 c1], .string s] V fun e w' => e = .returned (.int .i64 (fnIx c.Fns s)) ∧ Below V.heap.size V w') := fun V hV s =>
    l9FnAt_any (.slice a0 l0 c0) (.slice a1 l1 c1) c.Fns s V (hF.later FnR.lasts hV) (by have := HLN.out; omega)
  have HW : Hid (W = _) := hW
  have hn0 := After.some W
  obtain ⟨y0, y1, z0, z1, z2, hWl⟩ := HBX.out W (Below.refl _ _)
  have p0 := After.cell y0
  have p1 := After.cell y1
  have p2 := After.cell z0
  have p3 := After.cell z1
  have p4 := After.cell z2
  have wr0 : IntKind.i64.wrap ((l0 : Int) - 1) = (l0 : Int) - 1 := wrapI_in _ (by omega)
  clear hc hok hz hs hw hsl hFe hPe hF hP el nA nB hA y0 y1 z0 z1 z2
  by_cases k0 : inI F 0 ((l0 : Int) - 1) = true
  case neg =>
    have i0 : inI F 0 ((l0 : Int) - 1) = false := by simpa using k0
    have HNF : ¬ FitF c f := fitF_no (by rw [HFE.out.1, HLN.out.1]; by_cases q : F < 0; exact .inl q; right; have := inI_no i0; omega)
    have HF : Hid (¬ PP) := by rw [← HPP.out]; exact fun h => HNF h.1
    have H0B : Hid ((0 : Int) = BB) := by rw [← HBB.out]; exact hBad_no HNF
    clear HNF
    clear k0 hW
    go_enter Tryz.func27, Tryz.ntmps27
    go_wp2_with fail
    rw [← HW.out]
    refine wp_region_after (by kernel_rfl) (by kernel_rfl) ?_
    repeat (go_big_quiet_step ((go_at_call 26; (with_reducible exact calls_after (HIN.out _ _ _ _)))))
    refine wpQuiet_nil ?_
    rintro _ ⟨nq, rfl⟩
    have HBQ : Hid (Below w.heap.size w nq.now) := HB.out.trans (nq.bel.mono HB.out.size)
    go_wp2_with fail
    go_ret2
    exact fr_no HF.out H0B.out HBQ.out
  have hF0 : 0 ≤ F ∧ F < (l0 : Int) := by have := inI_yes k0; omega
  obtain ⟨k, rfl⟩ : ∃ k : Nat, F = k := ⟨F.toNat, by omega⟩
  obtain ⟨g, hg⟩ : ∃ g, c.Fns[k]? = some g := ⟨_, List.getElem?_eq_getElem (by have := HLN.out; omega)⟩
  obtain ⟨b, o, a3, c3, rfl, f0, f1, f2, f3, _⟩ := Fn_at (HRW.out W HB.out) k g hg
  have HPM : Hid (FitF c f ↔ (0 ≤ P ∧ P < g.Ins.length) ∧ (sl : Int) = g.Slots ∧ ∀ (i : Nat) (t : Tm (e + 1)), f.Slots[i]? = some t → SlotP e t) := by
    have := fitF_iff (c := c) (f := f) HFE.out.1 hg
    rw [HFE.out.2.1, HFE.out.2.2] at this
    exact this
  have hbl : b < W.heap.size := by have := World.block_lt_of_cell? W _ f0; simpa using this
  have kl : k < l0 := by omega
  have kl' : (k : Int) < (l0 : Int) := by omega
  have HG : Hid (c.Fns[k]? = some g) := hg
  have hgb := (HOK.out.2.2 k g hg).2.2.2.2.1
  obtain ⟨gi, hgi⟩ : ∃ n, g.Ins.length = n := ⟨_, rfl⟩
  obtain ⟨gs, hgs⟩ : ∃ n, g.Slots = n := ⟨_, rfl⟩
  have HGI : Hid (g.Ins.length = gi ∧ g.Slots = gs ∧ 1 ≤ gi ∧ gi ≤ 1500) := ⟨hgi, hgs, by omega, by omega⟩
  rw [hgi, hgs] at HPM
  rw [hgi] at f3
  rw [hgs] at f2
  have p5 := After.cell f2
  have p6 := After.cell f3
  have wr1 : IntKind.i64.wrap ((gi : Int) - 1) = (gi : Int) - 1 := wrapI_in _ (by omega)
  clear hg hgi hgs hF0 hgb f0 f1 f2 f3
  by_cases k1 : inI P 0 ((gi : Int) - 1) = true
  case neg =>
    have i1 : inI P 0 ((gi : Int) - 1) = false := by simpa using k1
    have HNF : ¬ FitF c f := fun h => by have := (HPM.out.1 h).1; have := inI_no i1; omega
    have HF : Hid (¬ PP) := by rw [← HPP.out]; exact fun h => HNF h.1
    have H0B : Hid ((0 : Int) = BB) := by rw [← HBB.out]; exact hBad_no HNF
    clear HNF
    clear k1 hW
    go_enter Tryz.func27, Tryz.ntmps27
    go_wp2_with fail
    rw [← HW.out]
    refine wp_region_after (by kernel_rfl) (by kernel_rfl) ?_
    repeat (go_big_quiet_step ((go_at_call 26; (with_reducible exact calls_after (HIN.out _ _ _ _)))))
    refine wpQuiet_nil ?_
    rintro _ ⟨nq, rfl⟩
    have HBQ : Hid (Below w.heap.size w nq.now) := HB.out.trans (nq.bel.mono HB.out.size)
    go_wp2_with fail
    go_ret2
    exact fr_no HF.out H0B.out HBQ.out
  by_cases q0 : (sl : Int) = gs
  case neg =>
    have q0' : ((sl : Int) != gs) = true := by simp [q0]
    have HNF : ¬ FitF c f := fun h => q0 (HPM.out.1 h).2.1
    have HF : Hid (¬ PP) := by rw [← HPP.out]; exact fun h => HNF h.1
    have H0B : Hid ((0 : Int) = BB) := by rw [← HBB.out]; exact hBad_no HNF
    clear HNF
    clear q0 hW
    go_enter Tryz.func27, Tryz.ntmps27
    go_wp2_with fail
    rw [← HW.out]
    refine wp_region_after (by kernel_rfl) (by kernel_rfl) ?_
    repeat (go_big_quiet_step ((go_at_call 26; (with_reducible exact calls_after (HIN.out _ _ _ _)))))
    refine wpQuiet_nil ?_
    rintro _ ⟨nq, rfl⟩
    have HBQ : Hid (Below w.heap.size w nq.now) := HB.out.trans (nq.bel.mono HB.out.size)
    go_wp2_with fail
    go_ret2
    exact fr_no HF.out H0B.out HBQ.out
  have q0' : ((sl : Int) != gs) = false := by simp [q0]
  have HKS : Hid ((0 ≤ P ∧ P < gi) ∧ (sl : Int) = gs) := ⟨by have := inI_yes k1; omega, q0⟩
  clear q0 hW
  go_enter Tryz.func27, Tryz.ntmps27
  go_wp2_with fail
  rw [← HW.out]
  refine wp_region_after (by kernel_rfl) (by kernel_rfl) ?_
  repeat (go_big_quiet_step ((go_at_call 26; (with_reducible exact calls_after (HIN.out _ _ _ _)))))
  refine wpQuiet_nil ?_
  rintro _ ⟨nq, rfl⟩
  have HBQ : Hid (Below W.heap.size W nq.now) := nq.bel
  obtain ⟨V0, hV0⟩ : ∃ V, nq.now = V := ⟨_, rfl⟩
  rw [hV0] at HBQ ⊢
  clear hV0 nq p0 p1 p2 p3 p4 p5 p6 hn0 wr0 wr1 k0 k1 q0'
  obtain ⟨p, rfl⟩ : ∃ p : Nat, P = p := ⟨P.toNat, by have := HKS.out.1; omega⟩
  go_wp2_with fail
  go_loopw [10] (fun i wr => ∃ j : Nat, j ≤ sl ∧ i = .int .i64 j ∧ Hid (Below W.heap.size W wr) ∧ Hid (∀ (i : Nat) (t : Tm (e + 1)), i < j → f.Slots[i]? = some t → SlotP e t)) (fun i _ => sl - (intOf i).toNat)
  case atStart => exact ⟨0, Nat.zero_le _, rfl, HBQ, fun i t hi => by omega⟩
  case round =>
    obtain ⟨j, hj, rfl, HBj, HOJ⟩ := hrel
    have HBW : Hid (Below w.heap.size w wr) := HB.out.trans (HBj.out.mono HB.out.size)
    obtain ⟨y0, y1, z0, z1, z2, hwl⟩ := HBX.out wr HBj.out
    by_cases hjl : j < sl
    · obtain ⟨t, ht⟩ : ∃ t, f.Slots[j]? = some t := ⟨_, List.getElem?_eq_getElem (by have := HFE.out.2.2; omega)⟩
      obtain ⟨tb, tob, la, ll, lc, rfl, t0, t1, t2, t3, hT⟩ := terms_at (HSR.out wr HBW.out) j t ht
      have hjl' : (j : Int) < (sl : Int) := by omega
      have htb : tb < wr.heap.size := by have := World.block_lt_of_cell? wr _ t0; simpa using this
      have HT : Hid (f.Slots[j]? = some t) := ht
      have hC := specTm_any e _ t wr hT (wf_term HWF.out ht)
      have HTR : Hid (∀ V : World, Below w.heap.size w V → V.cell? ⟨tb, tob + j * 4, none⟩ = some (.int .i64 t.K) ∧ V.cell? ⟨tb, tob + j * 4 + 1, none⟩ = some (.int .i64 t.N) ∧ V.cell? ⟨tb, tob + j * 4 + 2, none⟩ = some (.string t.S)) := fun V hV => by
        obtain ⟨tb', tob', la', ll', lc', e1, t0', t1', t2', t3', hT'⟩ := terms_at (HSR.out V hV) j t ht
        cases e1
        exact ⟨t0', t1', t2'⟩
      obtain ⟨llv, e1, hll⟩ := hT
      simp only [List.cons.injEq, and_true, true_and] at e1
      subst e1
      obtain ⟨a', c', e2⟩ := hll.len
      simp only [Value.slice.injEq] at e2
      have HLL : Hid (t.L.length = ll) := e2.2.1.symm
      have hllb : ll ≤ 9223372036854775807 := by rw [← HLL.out]; exact (wf_term HWF.out ht).2.2.2.len
      have hsb : t.S.size ≤ 9223372036854775807 := len_max (wf_term HWF.out ht).2.2.1
      have HZC : Hid (∀ V : World, Calls Tryz.prog 57 #[.agg #[.int .i64 t.K, .int .i64 t.N, .string t.S, .slice la ll lc]] V fun e' w' => BRes (t.K = 0 ∧ t.N = 0 ∧ t.S.size = 0 ∧ ll = 0) V e' w') := fun V => l10Zero_any t.K t.N t.S la ll lc V hsb hllb
      have HZT : Hid ((t.K = 0 ∧ t.N = 0 ∧ t.S.size = 0 ∧ ll = 0) ↔ ZeroT t) := by rw [← HLL.out]; exact Iff.rfl
      clear ht e2 hll hllb hsb
      have T3 := t3
      go_wp2_with fail
      refine hC.mono ?_
      clear hC
      rintro e' V ⟨b', rfl, hb', hB'⟩
      have HB3 : Hid (Below W.heap.size W V) := HBj.out.trans (hB'.mono HBj.out.size)
      have HB4 : Hid (Below w.heap.size w V) := HBW.out.trans (hB'.mono HBW.out.size)
      have t3' := cell_later hB' T3
      clear hB' y0 y1 z0 z1 z2 t0 t1 t2 t3 T3 hwl
      cases b' with
      | true =>
        have HN : Hid (∀ (i : Nat) (t : Tm (e + 1)), i < j + 1 → f.Slots[i]? = some t → SlotP e t) := fun i y hi hy => by
          rcases Nat.lt_or_ge i j with q | q
          · exact HOJ.out i y q hy
          · obtain rfl : i = j := by omega
            rw [HT.out] at hy
            cases hy
            exact .inl (hb'.1 rfl)
        clear hb' HOJ t3'
        go_wp2_with fail
        go_roundw
        case rel => exact ⟨j + 1, by omega, by go_num, HB3, HN⟩
        case measure => simp [intOf]; omega
      | false =>
        obtain ⟨t0, t1, t2⟩ := HTR.out V HB4.out
        obtain ⟨y0, y1, z0, z1, z2, hwl⟩ := HBX.out V HB3.out
        have hC := HZC.out V
        have HNR : Hid (¬ RightT e t) := fun h => by have := hb'.2 h; cases this
        clear hb'
        go_wp2_with fail
        refine hC.mono ?_
        clear hC
        rintro e' V2 ⟨b2, rfl, hb2, hB2⟩
        have HB5 : Hid (Below W.heap.size W V2) := HB3.out.trans (hB2.mono HB3.out.size)
        have HB6 : Hid (Below w.heap.size w V2) := HB4.out.trans (hB2.mono HB4.out.size)
        have hb3 := hb2.trans HZT.out
        clear hB2 hb2 y0 y1 z0 z1 z2 t0 t1 t2 t3' hwl
        cases b2 with
        | true =>
          have HN : Hid (∀ (i : Nat) (t : Tm (e + 1)), i < j + 1 → f.Slots[i]? = some t → SlotP e t) := fun i y hi hy => by
            rcases Nat.lt_or_ge i j with q | q
            · exact HOJ.out i y q hy
            · obtain rfl : i = j := by omega
              rw [HT.out] at hy
              cases hy
              exact .inr (hb3.1 rfl)
          clear hb3 HOJ
          go_wp2_with fail
          go_roundw
          case rel => exact ⟨j + 1, by omega, by go_num, HB5, HN⟩
          case measure => simp [intOf]; omega
        | false =>
          have HNF : ¬ FitF c f := fun h => by
            rcases (HPM.out.1 h).2.2 j t HT.out with q | q
            · exact HNR.out q
            · have := hb3.2 q; cases this
          have HF : Hid (¬ PP) := by rw [← HPP.out]; exact fun h => HNF h.1
          have H0B : Hid ((0 : Int) = BB) := by rw [← HBB.out]; exact hBad_no HNF
          clear HNF
          clear hb3 HOJ
          go_wp2_with fail
          go_ret2
          exact fr_no HF.out H0B.out HB6.out
    · obtain rfl : j = sl := by omega
      have hjl' : decide ((j : Int) < (j : Int)) = false := by simp
      have HFIT : Hid (FitF c f) := HPM.out.2 ⟨HKS.out.1, HKS.out.2, fun i t hi => HOJ.out i t (by have := (List.getElem?_eq_some_iff.1 hi).1; have := HFE.out.2.2; omega) hi⟩
      obtain ⟨b', o', a3', c3', e1, f0, f1, f2, f3, hrow⟩ := Fn_at (HRW.out wr HBW.out) k g HG.out
      cases e1
      rw [HGI.out.1] at f3 hrow
      rw [HGI.out.2.1] at f2
      have hbl2 : b < wr.heap.size := by have := World.block_lt_of_cell? wr _ f0; simpa using this
      have HROW : Hid (∀ V : World, Below w.heap.size w V → RowOf 4 FnR V (.slice (some ⟨b, o, none⟩) l0 c0) c.Fns) := HRW.out
      obtain ⟨q1, q2, q3, q4, q5, q6, q, q7⟩ := HOK.out.2.2 k g HG.out
      obtain ⟨t1, t2, _, _⟩ := hts_facts HOK.out HG.out
      obtain ⟨r1, r2⟩ := rn_PM g.Ins.length g.Ins 0 _ _ (hs0_low _) t1
      have hC := l9Heights_any g.Ins g.Name g.Args gs a3' gi c3' wr hrow HGI.out.1 HGI.out.2.2.1 HGI.out.2.2.2 (fun x hx => (q6 x hx).op) (by rw [HGI.out.1] at r2; exact r2)
      rw [HGI.out.1] at r1 t2
      rw [r1] at hC
      have HTL : Hid ((htsD g).length = gi) := t2
      have hpl : (p : Int) < (gi : Int) := by have := HKS.out.1; omega
      have hgb : gi ≤ 1500 := HGI.out.2.2.2
      clear HOJ hrow q1 q2 q3 q4 q5 q6 q7 r1 r2 t1 t2 q
      go_wp2_with fail
      refine hC.mono ?_
      clear hC
      rintro e' V ⟨v, b2, rfl, g1, g2, hB'⟩
      have HB3 : Hid (Below W.heap.size W V) := HBj.out.trans (hB'.mono HBj.out.size)
      have HB4 : Hid (Below w.heap.size w V) := HBW.out.trans (hB'.mono HBW.out.size)
      obtain rfl : b2 = true := g1.2 ⟨_, rfl⟩
      obtain ⟨q, gg, cp, hq, rfl, hgg, hrw⟩ := g2 rfl
      cases hq
      rw [HTL.out]
      have HHR : Hid (HRow V gg (htsD g)) := hrw
      have hggl : gg < V.heap.size := hrw.lt
      clear g1 g2 hB' y0 y1 z0 z1 z2 f0 f1 f2 f3 hrw hgg hwl hbl2 hbl
      obtain ⟨y0, y1, z0, z1, z2, hwl⟩ := HBX.out V HB3.out
      cases last with
      | true =>
        obtain ⟨t3, t4⟩ := htF_at HOK.out HFE.out.1 HG.out HFE.out.2.1 (by rw [HGI.out.1]; omega)
        have x1 := HHR.out.cell t3
        have HF : Hid PP := by rw [← HPP.out]; exact ⟨HFIT.out, fun h => by cases h⟩
        have HR2 : Hid (htF c f = RR) := by rw [← HRR.out]; rfl
        obtain ⟨hh, hhh⟩ : ∃ x, htF c f = x := ⟨_, rfl⟩
        rw [hhh] at x1 HR2
        clear t3 t4 hhh
        go_wp2_with fail
        go_ret2
        exact fr_yes HF.out HR2.out HB4.out
      | false =>
        cases p with
        | zero =>
          have HF : Hid (¬ PP) := by rw [← HPP.out]; exact fun h => callF_no HFE.out.2.1 (h.2 (by simp))
          have hp0 : (((0 : Nat) : Int) == 0) = true := by decide
          have H0B : Hid ((0 : Int) = BB) := by rw [← HBB.out]; exact hBad_zero HFE.out.2.1
          go_wp2_with fail
          go_ret2
          exact fr_no HF.out H0B.out HB4.out
        | succ p =>
          have hp1 : ((((p + 1 : Nat) : Int)) == 0) = false := by simp; omega
          have hp2 : IntKind.i64.wrap (((p + 1 : Nat) : Int) - 1) = (p : Int) := by rw [wrapI_in _ (by omega)]; omega
          obtain ⟨x, hx⟩ : ∃ x, g.Ins[p]? = some x := ⟨_, List.getElem?_eq_getElem (by rw [HGI.out.1]; omega)⟩
          obtain ⟨b', o', a3', c3', e1, f0, f1, f2, f3, hrow⟩ := Fn_at (HROW.out V HB4.out) k g HG.out
          cases e1
          obtain ⟨b2, o2, rfl, g0, g1, g2, g3⟩ := Ins_at hrow p x hx
          rw [HGI.out.1] at f3
          have hbl2 : b < V.heap.size := by have := World.block_lt_of_cell? V _ f0; simpa using this
          have hbl3 : b2 < V.heap.size := by have := World.block_lt_of_cell? V _ g0; simpa using this
          have pl : p < gi := by omega
          have pl' : (p : Int) < (gi : Int) := by omega
          have HCI : Hid (CallF c f nx ↔ x.Op = 8 ∧ fnIx c.Fns x.S = nx) := callF_iff HFE.out.1 HG.out (by rw [HFE.out.2.1]; rfl) hx
          obtain ⟨pp, hpp⟩ : ∃ z : Int, ((p + 1 : Nat) : Int) = z := ⟨_, rfl⟩
          have HPQ : Hid (((p + 1 : Nat) : Int) = pp) := hpp
          obtain ⟨hh, hhh⟩ : ∃ y, (htsD g)[p]? = some y := ⟨_, List.getElem?_eq_getElem (by rw [HTL.out]; omega)⟩
          have HHH : Hid ((htsD g)[p]? = some hh) := hhh
          have x1 := HHR.out.cell hhh
          have HX : Hid (g.Ins[p]? = some x) := hx
          rw [hpp] at hp1 hp2 z1
          have HZV : Hid (∀ Z : World, Below V.heap.size V Z → Z.cell? ⟨w.heap.size, 0, none⟩ = some (.slice (some ⟨b, o, none⟩) l0 c0) ∧ Z.cell? ⟨w.heap.size, 1, none⟩ = some (.slice a1 l1 c1) ∧ Z.cell? ⟨w.heap.size + 1, 1, none⟩ = some (.int .i64 pp) ∧ Z.cell? ⟨gg, p, none⟩ = some (.int .i64 hh)) := fun Z hZ => ⟨cell_later hZ y0, cell_later hZ y1, cell_later hZ z1, cell_later hZ x1⟩
          clear hx hhh hrow
          have HZW : Hid (Below w.heap.size w V) := HB4.out
          have HFAV : Hid (∀ Z : World, Below V.heap.size V Z → Calls Tryz.prog 41 #[.agg #[.slice (some ⟨b, o, none⟩) l0 c0, .slice a1 l1 c1], .string x.S] Z fun e w' => e = .returned (.int .i64 (fnIx c.Fns x.S)) ∧ Below Z.heap.size Z w') := fun Z hZ => HFA.out Z (HB4.out.trans (hZ.mono HB4.out.size)) x.S
          have wrp : IntKind.i64.wrap (p : Int) = (p : Int) := wrapI_in _ (by omega)
          have hwW1 : w.heap.size + 1 < V.heap.size := hwl
          have hwW0 : w.heap.size < V.heap.size := by omega
          obtain ⟨X, hX⟩ : ∃ X, X = (V.alloc (.cells #[.int .i64 x.Op, .int .i64 x.N, .string x.S, .int .i64 x.To] 113)).drew := ⟨_, rfl⟩
          have bX : Below V.heap.size V X := by rw [hX]; exact ((Below.refl _ _).alloc (Nat.le_refl _) _).drew
          have nX : X.heap[V.heap.size]? = some (.cells #[.int .i64 x.Op, .int .i64 x.N, .string x.S, .int .i64 x.To] 113 (0, 0)) := by rw [hX]; exact heap_alloc_new V _
          have HBX2 : Hid (Below w.heap.size w X) := HB4.out.trans (bX.mono HB4.out.size)
          have u0 : X.cell? ⟨V.heap.size, 0, none⟩ = some (.int .i64 x.Op) := by rw [cell_of_row X _ 0 _ _ _ nX]; rfl
          have u1 : X.cell? ⟨V.heap.size, 1, none⟩ = some (.int .i64 x.N) := by rw [cell_of_row X _ 1 _ _ _ nX]; rfl
          have u2 : X.cell? ⟨V.heap.size, 2, none⟩ = some (.string x.S) := by rw [cell_of_row X _ 2 _ _ _ nX]; rfl
          obtain ⟨v0, v1, v2, v3⟩ := HZV.out X bX
          have HXV : Hid (Below V.heap.size V X) := bX
          have HXE : Hid (X = _) := hX
          clear hX bX nX
          go_wp2_with fail
          go_region
          rw [← HXE.out]
          clear f0 f1 f2 f3 g0 g1 g2 g3 y0 y1 z0 z1 z2 x1 HXE hp1 hbl2 hbl3 hwl hwW1 hwW0
          have hn1 := After.some X
          have p0 := After.cell u0
          have p1 := After.cell u1
          have p2 := After.cell u2
          have p3 := After.cell v0
          have p4 := After.cell v1
          have p5 := After.cell v2
          have p6 := After.cell v3
          clear u0 u1 u2 v0 v1 v2 v3
          go_wp2_with fail
          have HBA : Hid (wrap64 (hh - x.N) = BB) := by rw [← HBB.out]; exact hBad_at HFIT.out HFE.out.1 HG.out HFE.out.2.1 HX.out HHH.out
          by_cases h8 : x.Op = 8
          · have h8' : (x.Op == 8) = true := by simp [h8]
            have H8 : Hid (x.Op = 8) := h8
            obtain ⟨hh2, e1, e2⟩ := htF_call HOK.out HFE.out.1 HG.out (by rw [HFE.out.2.1]; rfl) HX.out h8 (by rw [HGI.out.1]; omega)
            rw [HHH.out] at e1
            cases e1
            have hbnd : -1 ≤ htF c f ∧ htF c f ≤ 300 := (htF_at HOK.out HFE.out.1 HG.out HFE.out.2.1 (by rw [HGI.out.1]; omega)).2
            have HRE : Hid (IntKind.i64.wrap (hh - x.N) = RR) := by
              show _ = _
              rw [← HRR.out, wrapI_in _ (by omega), e2]
              rfl
            have HRE2 : Hid (wrap64 (hh - x.N) = RR) := by
              show _ = _
              rw [← HRR.out, wrap64_in _ (by omega), e2]
              rfl
            have HRE3 : Hid (hh - x.N = RR) := by
              show _ = _
              rw [← HRR.out, e2]
              rfl
            obtain ⟨ix, hix⟩ : ∃ z, fnIx c.Fns x.S = z := ⟨_, rfl⟩
            have HIX : Hid (fnIx c.Fns x.S = ix) := hix
            have HCC : Hid (∀ Z : World, Below X.heap.size X Z → Calls Tryz.prog 41 #[.agg #[.slice (some ⟨b, o, none⟩) l0 c0, .slice a1 l1 c1], .string x.S] Z fun e w' => e = .returned (.int .i64 ix) ∧ Below Z.heap.size Z w') := fun Z hZ => by
              have := HFAV.out Z (HXV.out.trans (hZ.mono HXV.out.size))
              rw [HIX.out] at this
              exact this
            have HF : Hid ((ix == nx) = true ↔ PP) := by
              show _ ↔ _
              rw [beq_iff_eq, ← HPP.out]
              exact ⟨fun h => ⟨HFIT.out, fun _ => HCI.out.2 ⟨H8.out, HIX.out.trans h⟩⟩, fun h => HIX.out.symm.trans (HCI.out.1 (h.2 (by simp))).2⟩
            clear h8 hix e2 hbnd
            refine wp_region_after (by kernel_rfl) (by kernel_rfl) ?_
            repeat (go_big_quiet_step ((go_at_call 41; (with_reducible exact calls_after (HCC.out _ (After.bel _))))))
            refine wpQuiet_nil ?_
            rintro _ ⟨nq, rfl⟩
            have HBQ2 : Hid (Below w.heap.size w nq.now) := HBX2.out.trans (nq.bel.mono HBX2.out.size)
            go_wp2_with fail
            go_ret2
            exact ⟨_, _, rfl, HF.out, (fun _ => by first | exact HRE.out | exact HRE2.out), (fun _ => by first | exact HBA.out | exact (wrap_both _).trans HBA.out), HBQ2.out⟩
          · have h8' : (x.Op == 8) = false := by simp [h8]
            have HF : Hid (¬ PP) := by rw [← HPP.out]; exact fun h => h8 (HCI.out.1 (h.2 (by simp))).1
            clear h8
            refine wp_region_after (by kernel_rfl) (by kernel_rfl) ?_
            repeat (go_big_quiet_step (fail))
            refine wpQuiet_nil ?_
            rintro _ ⟨nq, rfl⟩
            have HBQ2 : Hid (Below w.heap.size w nq.now) := HBX2.out.trans (nq.bel.mono HBX2.out.size)
            go_wp2_with fail
            go_ret2
            exact fr_no HF.out (by first | exact HBA.out | exact (wrap_both _).trans HBA.out) HBQ2.out

end Go.Proofs.YtkkdnkdkelligaaGreatDoor
