/- Whether code can be put: the program's. -/
import Derived.Test.YtfachfimdenapaaDoorPc2M
import Derived.Test.YtfachfimdenapaaDoorCk10M
import Derived.Test.YtfachfimdenapaaDoorPf1M
import Derived.Shelf.Abstract
namespace Go.Proofs.YtfachfimdenapaaDoor
open Go.RowKit
set_option linter.unusedVariables false

theorem fitsNowhere_any (d : Nat) (vs : List Value) (x : Tm d) (w : World) (hr : PatR d w vs x) (hw : WfPat d x) (hz : szPatD d x ≤ 1048576) :
    Calls Tryd.prog 39 #[.agg vs.toArray] w fun e w' => BRes (¬ pPatFits d x 400) w e w' := by
  obtain ⟨W, hW⟩ : ∃ W, W = w.alloc (.cells vs.toArray 51) := ⟨_, rfl⟩
  have hA : Below w.heap.size w W := by rw [hW]; exact (Below.refl _ _).alloc (Nat.le_refl _) _
  have hC := implPatFits_any d vs x 400 W (PatR.lasts d _ _ _ _ hr hA) hw hz ⟨by omega, by omega⟩
  obtain ⟨y0, y1, y2, ya3, yl3, yc3, rfl⟩ := PatR.shape _ _ _ _ hr
  rw [hW] at hC
  have HW : Hid (W = _) := hW
  have HA : Hid (Below w.heap.size w W) := hA
  clear hW hA hr hw hz
  go_enter Tryd.func39, Tryd.ntmps39
  go_wp2_with fail
  refine hC.mono ?_
  clear hC
  rintro e w1 ⟨r, rfl, hr, hb⟩
  rw [← HW.out] at hb
  have HB : Hid (Below w.heap.size w w1 ∧ (r = true ↔ pPatFits d x 400)) := ⟨HA.out.trans (hb.mono HA.out.size), hr⟩
  clear hr hb HW HA
  cases r with
  | true =>
    go_wp2_with fail
    go_ret
    exact bres_no (fun h => h (HB.out.2.1 (by first | rfl | trivial))) HB.out.1
  | false =>
    go_wp2_with fail
    go_ret
    exact bres_yes (fun h => by have := HB.out.2.2 h; cases this) HB.out.1

theorem enters_fitsNowhere : ∀ args w, (callFunc 39 args).run Tryd.prog w = .ok (.enter 39 args) w := enters_of Tryd.func39 (by kernel_rfl) rfl

def IxR (P : Prop) (w : World) (e : Ending) (w' : World) : Prop := ∃ r : Int, e = .returned (.int .i64 r) ∧ (0 ≤ r ↔ P) ∧ I64 r ∧ Below w.heap.size w w'

set_option maxRecDepth 100000 in
set_option maxHeartbeats 4000000 in
theorem indexPat_any (d : Nat) (a : Option Addr) (len c : Nat) (m : List (Tm d)) (w : World) (hr : RowOf 4 (PatR d) w (.slice a len c) m) (hw : ∀ x ∈ m, WfPat d x) (hz : szRow (szPatD d) m ≤ 1048576) (hl : m.length = len) :
    Calls Tryd.prog 57 #[.slice a len c, .func (.func 39) #[] #[]] w fun e w' => IxR (∃ (i : Nat) (t : Tm d), m[i]? = some t ∧ ¬ pPatFits d t 400) w e w' := by
  obtain ⟨a', c', e0, hel⟩ := hr
  have HE : Hid (∀ (i : Nat) (e : Tm d), m[i]? = some e → ∃ b o vs, a' = some ⟨b, o, none⟩ ∧ vs.length = 4 ∧ (∀ (j : Nat) (u : Value), vs[j]? = some u → w.cell? ⟨b, o + i * 4 + j, none⟩ = some u) ∧ PatR d w vs e) := hel
  simp only [Value.slice.injEq] at e0
  obtain ⟨rfl, hq1, rfl⟩ := e0
  have n1 : m.length ≤ szRow (szPatD d) m := Nat.le_add_right _ _
  have hl1 : len ≤ 1048576 := by omega
  have HL : Hid (m.length = len) := hl
  have HWF : Hid ((∀ x ∈ m, WfPat d x) ∧ szRow (szPatD d) m ≤ 1048576) := ⟨hw, hz⟩
  have eg := enters_fitsNowhere
  obtain ⟨PP, hPP⟩ : ∃ Q : Prop, (∃ (i : Nat) (t : Tm d), m[i]? = some t ∧ ¬ pPatFits d t 400) = Q := ⟨_, rfl⟩
  have HPP : Hid ((∃ (i : Nat) (t : Tm d), m[i]? = some t ∧ ¬ pPatFits d t 400) = PP) := hPP
  rw [hPP]
  clear hel hl hw hz n1 hPP hq1
  go_enter Tryd.func57, Tryd.ntmps57
  go_wp2_with fail
  go_loopw [5, 8] (fun _ i wr => ∃ k : Nat, k ≤ len ∧ i = .int .i64 k ∧ Hid (Below w.heap.size w wr) ∧ Hid (∀ (j : Nat) (g : Tm d), j < k → m[j]? = some g → ¬ ¬ pPatFits d g 400)) (fun _ i _ => len - (intOf i).toNat)
  case atStart => exact ⟨0, Nat.zero_le _, rfl, Below.refl _ _, fun j g hj => absurd hj (Nat.not_lt_zero _)⟩
  case round =>
    obtain ⟨k, hk, rfl, HB, HN⟩ := hrel
    by_cases hkl : k < len
    · obtain ⟨t, ht⟩ : ∃ t, m[k]? = some t := ⟨_, List.getElem?_eq_getElem (by have := HL.out; omega)⟩
      obtain ⟨b, o, vs, rfl, hvl, hcell, hre⟩ := HE.out k t ht
      obtain ⟨y0, y1, y2, ya3, yl3, yc3, rfl⟩ := PatR.shape _ _ _ _ hre
      have f0 : wr.cell? ⟨b, o + k * 4, none⟩ = some _ := cell_later HB.out (hcell 0 _ rfl)
      have f1 : wr.cell? ⟨b, o + k * 4 + 1, none⟩ = some _ := cell_later HB.out (hcell 1 _ rfl)
      have f2 : wr.cell? ⟨b, o + k * 4 + 2, none⟩ = some _ := cell_later HB.out (hcell 2 _ rfl)
      have f3 : wr.cell? ⟨b, o + k * 4 + 3, none⟩ = some _ := cell_later HB.out (hcell 3 _ rfl)
      have hkl' : (k : Int) < (len : Int) := by omega
      have HT : Hid (m[k]? = some t) := ht
      have hC := fitsNowhere_any d _ t wr (PatR.lasts d _ _ _ _ hre HB.out) (HWF.out.1 t (List.mem_of_getElem? ht)) (Nat.le_trans (szRow_mem ht) HWF.out.2)
      clear ht hvl hcell hre
      by_cases hpt : pPatFits d t 400
      · have HF : Hid (∀ (j : Nat) (g : Tm d), j < k + 1 → m[j]? = some g → ¬ ¬ pPatFits d g 400) := fun j y hj hy => by
          rcases Nat.lt_or_ge j k with q | q
          · exact HN.out j y q hy
          · obtain rfl : j = k := by omega
            rw [HT.out] at hy
            cases hy
            exact fun h => h hpt
        have HPT : Hid (pPatFits d t 400) := hpt
        clear HN hpt
        go_wp2_with (go_at_fn 39; refine hC.mono ?_; rintro e w' ⟨b', rfl, hb', hB'⟩; obtain rfl : b' = false := (Bool.eq_false_iff.2 fun h => (hb'.1 h) HPT.out); have HB2 : Hid (Below w.heap.size w w') := HB.out.trans (hB'.mono HB.out.size))
        go_roundw
        case rel => exact ⟨k + 1, by omega, by go_num, by assumption, HF⟩
        case measure => simp [intOf]; omega
      · have HF : Hid PP := by rw [← HPP.out]; exact ⟨k, t, HT.out, hpt⟩
        have HPT : Hid (¬ pPatFits d t 400) := hpt
        clear HN hpt
        go_wp2_with (go_at_fn 39; refine hC.mono ?_; rintro e w' ⟨b', rfl, hb', hB'⟩; obtain rfl : b' = true := hb'.2 HPT.out; have HB2 : Hid (Below w.heap.size w w') := HB.out.trans (hB'.mono HB.out.size))
        go_ret
        exact ⟨_, rfl, ⟨fun _ => HF.out, fun _ => by omega⟩, ⟨by omega, by omega⟩, by assumption⟩
    · obtain rfl : k = len := by omega
      have hkl' : decide ((k : Int) < (k : Int)) = false := by simp
      have HF : Hid (¬ PP) := by rw [← HPP.out]; rintro ⟨i, t, hi, ht⟩; exact HN.out i t (by have := (List.getElem?_eq_some_iff.1 hi).1; have := HL.out; omega) hi ht
      clear HN
      go_wp2_with fail
      go_ret
      exact ⟨_, rfl, ⟨fun h => by omega, fun h => absurd h HF.out⟩, ⟨by omega, by omega⟩, HB.out⟩

set_option maxRecDepth 100000 in
set_option maxHeartbeats 2000000 in
theorem containsPat_any (d : Nat) (a : Option Addr) (len c : Nat) (m : List (Tm d)) (w : World) (hr : RowOf 4 (PatR d) w (.slice a len c) m) (hw : ∀ x ∈ m, WfPat d x) (hz : szRow (szPatD d) m ≤ 1048576) (hl : m.length = len) :
    Calls Tryd.prog 38 #[.slice a len c, .func (.func 39) #[] #[]] w fun e w' => BRes (∃ (i : Nat) (t : Tm d), m[i]? = some t ∧ ¬ pPatFits d t 400) w e w' := by
  have hC := indexPat_any d a len c m w hr hw hz hl
  obtain ⟨PP, hPP⟩ : ∃ Q : Prop, (∃ (i : Nat) (t : Tm d), m[i]? = some t ∧ ¬ pPatFits d t 400) = Q := ⟨_, rfl⟩
  rw [hPP] at hC ⊢
  clear hr hw hl hz hPP
  go_enter Tryd.func38, Tryd.ntmps38
  go_wp2_with fail
  refine hC.mono ?_
  clear hC
  rintro e V ⟨r, rfl, hr, _, hB⟩
  have HF : Hid (decide (0 ≤ r) = true ↔ PP) := by show _ ↔ _; rw [decide_eq_true_iff]; exact hr
  clear hr
  go_wp2_with fail
  go_ret
  exact ⟨_, rfl, HF.out, hB⟩

set_option maxRecDepth 100000 in
set_option maxHeartbeats 2000000 in
theorem canBePut_any (d : Nat) (vs : List Value) (c : DCode d) (w : World) (hc : CodeR d w vs c) (hwc : WfCode d c) (hz : szCodeD d c ≤ 1048576) (ht : ShOk w) :
    Calls Tryd.prog 22 #[.agg vs.toArray] w fun e w' => BRes (CanP d c) w e w' := by
  have hz' : szRow szFnD c.Fns + szRow (szPatD d) c.Pats ≤ 1048576 := hz
  obtain ⟨W, hW⟩ : ∃ W, W = w.alloc (.cells vs.toArray 32) := ⟨_, rfl⟩
  have hA : Below w.heap.size w W := by rw [hW]; exact (Below.refl _ _).alloc (Nat.le_refl _) _
  have hCK := implCodeOk_any d vs c W (CodeR.lasts d _ _ _ _ hc hA) hwc hz (ht.later hA)
  obtain ⟨v0, v1, rfl, h0, h1⟩ := hc
  obtain ⟨a0, c0, rfl⟩ := h0.slice
  obtain ⟨a1, c1, rfl⟩ := h1.slice
  have HCP : Hid (∀ V : World, Below w.heap.size w V → _) := fun V hV => containsPat_any d a1 _ c1 c.Pats V (h1.later (PatR.lasts d) hV) hwc.2.2 (by omega) rfl
  have hrow : W.heap[w.heap.size]? = some (.cells #[.slice a0 c.Fns.length c0, .slice a1 c.Pats.length c1] 32 (0, 0)) := by rw [hW]; exact heap_alloc_new w _
  have HROW : Hid (W.heap[w.heap.size]? = some (.cells #[.slice a0 c.Fns.length c0, .slice a1 c.Pats.length c1] 32 (0, 0))) := hrow
  rw [hW] at hCK
  have HW : Hid (W = _) := hW
  have HA : Hid (Below w.heap.size w W) := hA
  clear h0 h1 hwc hz hz' ht hW hA hrow
  go_enter Tryd.func22, Tryd.ntmps22
  go_wp2_with fail
  refine hCK.mono ?_
  clear hCK
  rintro e w1 ⟨r, rfl, hr, hb⟩
  rw [← HW.out] at hb
  have HB : Hid (Below W.heap.size W w1 ∧ (r = true ↔ pCodeOk d c)) := ⟨hb, hr⟩
  have hbw := HA.out.trans (hb.mono HA.out.size)
  have HBW : Hid (Below w.heap.size w w1) := hbw
  have hC := HCP.out w1 hbw
  have hr1 := (hb.block _ (lt_row HROW.out)).trans HROW.out
  have x1 : w1.cell? ⟨w.heap.size, 1, none⟩ = some (.slice a1 c.Pats.length c1) := by rw [cell_of_row w1 _ 1 _ _ _ hr1]; rfl
  clear hr hb hbw HCP hr1
  cases r with
  | false =>
    have HF : Hid (¬ CanP d c) := fun h => by have := HB.out.2.2 h.1; cases this
    clear hC x1
    go_wp2_with fail
    go_ret
    exact bres_no HF.out HBW.out
  | true =>
    have HOK : Hid (pCodeOk d c) := HB.out.2.1 rfl
    go_wp2_with fail
    refine hC.mono ?_
    clear hC
    rintro e w2 ⟨r2, rfl, hr2, hb2⟩
    have HB2 : Hid (Below w.heap.size w w2) := HBW.out.trans (hb2.mono HBW.out.size)
    have HR2 : Hid (r2 = true ↔ ∃ (i : Nat) (t : Tm d), c.Pats[i]? = some t ∧ ¬ pPatFits d t 400) := hr2
    clear hr2 hb2 x1
    cases r2 with
    | true =>
      have HF : Hid (¬ CanP d c) := fun h => by
        obtain ⟨i, t, h1, h2⟩ := HR2.out.1 rfl
        exact h2 (h.2 i t h1)
      clear HR2
      go_wp2_with fail
      go_ret
      exact bres_no HF.out HB2.out
    | false =>
      have HF : Hid (CanP d c) := ⟨HOK.out, fun i t h => Classical.byContradiction fun h2 => by
        have := HR2.out.2 ⟨i, t, h, h2⟩
        cases this⟩
      clear HR2
      go_wp2_with fail
      go_ret
      exact bres_yes HF.out HB2.out

end Go.Proofs.YtfachfimdenapaaDoor
