/- A worker is right: the model's. -/
import Derived.Test.YtfachfimdenapaaDtWorker
import Derived.Test.YtfachfimdenapaaLo1
import Derived.Test.YtfachfimdenapaaLook
import Derived.Test.YtfachfimdenapaaRt
namespace Go.Proofs.Ytfachfimdenapaa
open Go.RowKit
set_option linter.unusedVariables false

def pWorkerOk (d : Nat) (x : DWorker d) : Prop := (∀ (i : Nat) (t : Tm (d + 1)), x.Box[i]? = some t → RightT d t) ∧ inI x.Pid 1 1000000 = true ∧ AtomP x.Name ∧ AtomP x.Mod ∧ inI x.No 1 10000 = true ∧ RightT d x.State ∧ x.Box.length ≤ 20

set_option maxRecDepth 100000 in
set_option maxHeartbeats 4000000 in
theorem specWorkerOk_any (d : Nat) (vs : List Value) (x : DWorker d) (w : World) (hr : WorkerR d w vs x) (hw : WfWorker d x) (hz : szWorkerD d x ≤ 1048576) :
    Calls Try.prog 7 #[.agg vs.toArray] w fun e w' => BRes (pWorkerOk d x) w e w' := by
  have hz' : x.Name.size + (x.Mod.size + (szTm d x.State + szL (d + 1) x.Box)) ≤ 1048576 := hz
  obtain ⟨v4, v5, v6, v7, v8, rfl, h0, h1⟩ := hr
  have HTm : Hid (∀ V : World, Below w.heap.size w V → TmR d V [v4, v5, v6, v7] x.State) := fun V hV => TmR.lasts d _ _ _ _ h0 hV
  obtain ⟨i4, i5, s6, a7, l7, c7, esh⟩ := TmR.shape d _ _ _ h0
  cases esh
  obtain ⟨a, c, rfl⟩ := RdL.len1 h1
  have HE : Hid (RdL (d + 1) w (.slice a x.Box.length c) x.Box) := h1
  have HWB : Hid (WfL (d + 1) x.Box ∧ WfTm d x.State ∧ x.Name.size ≤ 9223372036854775807 ∧ x.Mod.size ≤ 9223372036854775807) := ⟨hw.2.2.2.2.2, hw.2.2.2.2.1, len_max hw.2.1, len_max hw.2.2.1⟩
  have hbl := szL_len x.Box
  obtain ⟨len, hl⟩ : ∃ l, x.Box.length = l := ⟨_, rfl⟩
  have HL : Hid (x.Box.length = len) := hl
  rw [hl] at HE hbl ⊢
  have hlen : len ≤ 1048576 := by omega
  clear h0 h1 hl hz hz' hbl hw
  obtain ⟨W, hW⟩ : ∃ W, W = w.alloc (.cells #[.int .i64 x.Pid, .string x.Name, .string x.Mod, .int .i64 x.No, .int .i64 i4, .int .i64 i5, .string s6, .slice a7 l7 c7, .slice a len c] 33) := ⟨_, rfl⟩
  have HA : Hid (Below w.heap.size w W) := by rw [hW]; exact (Below.refl _ _).alloc (Nat.le_refl _) _
  have n1 : W.heap[w.heap.size]? = some (.cells #[.int .i64 x.Pid, .string x.Name, .string x.Mod, .int .i64 x.No, .int .i64 i4, .int .i64 i5, .string s6, .slice a7 l7 c7, .slice a len c] 33 (0, 0)) := by rw [hW]; exact heap_alloc_new w _
  have HB : Hid (W.heap[w.heap.size]? = some (.cells #[.int .i64 x.Pid, .string x.Name, .string x.Mod, .int .i64 x.No, .int .i64 i4, .int .i64 i5, .string s6, .slice a7 l7 c7, .slice a len c] 33 (0, 0))) := n1
  clear n1
  go_enter Try.func7, Try.ntmps7
  go_wp2_with fail
  rw [← hW]
  clear hW
  go_loopw [3] (fun i wr => ∃ k : Nat, k ≤ len ∧ i = .int .i64 k ∧ Below W.heap.size W wr ∧ Hid (∀ (j : Nat) (g : Tm (d + 1)), j < k → x.Box[j]? = some g → RightT d g)) (fun i _ => len - (intOf i).toNat)
  case atStart => exact ⟨0, Nat.zero_le _, rfl, Below.refl _ _, fun j g hj => absurd hj (Nat.not_lt_zero _)⟩
  case round =>
    obtain ⟨k, hk, rfl, hbw, HN⟩ := hrel
    have HBX : Hid (Below W.heap.size W wr) := hbw
    have HBW : Hid (Below w.heap.size w wr) := HA.out.trans (hbw.mono HA.out.size)
    have hbx := (hbw.block _ (lt_row HB.out)).trans HB.out
    have d8 : wr.cell? ⟨w.heap.size, 8, none⟩ = some (.slice a len c) := by rw [cell_of_row wr _ 8 _ _ _ hbx]; rfl
    clear hbw
    by_cases hkl : k < len
    · obtain ⟨t, ht⟩ : ∃ t, x.Box[k]? = some t := ⟨_, List.getElem?_eq_getElem (by have := HL.out; omega)⟩
      obtain ⟨b, o, la, ll, lc, rfl, q0, q1, q2, q3, q4⟩ := terms_at HE.out k t ht
      have q0' := cell_later HBW.out q0
      have q1' := cell_later HBW.out q1
      have q2' := cell_later HBW.out q2
      have q3' := cell_later HBW.out q3
      have hkl' : (k : Int) < (len : Int) := by omega
      have HT : Hid (x.Box[k]? = some t) := ht
      have hC := specTm_any d _ t wr (TmR.lasts d _ _ _ _ q4 HBW.out) (wf_term HWB.out.1 ht)
      clear ht q0 q1 q2 q3 q4 hbx
      go_wp2_with fail
      refine hC.mono ?_
      clear hC d8 q0' q1' q2' q3'
      rintro e V ⟨bb, rfl, hbb, hB⟩
      have HBV : Hid (Below W.heap.size W V ∧ Below w.heap.size w V) := ⟨HBX.out.trans (hB.mono HBX.out.size), HBW.out.trans (hB.mono HBW.out.size)⟩
      have HBB : Hid (bb = true ↔ RightT d t) := hbb
      clear hB hbb
      cases bb with
      | false =>
        have HF : Hid (¬ pWorkerOk d x) := fun h => by have := HBB.out.2 (h.1 k t HT.out); cases this
        clear HN
        go_wp2_with fail
        go_ret
        exact bres_no HF.out HBV.out.2
      | true =>
        have HF : Hid (∀ (j : Nat) (g : Tm (d + 1)), j < k + 1 → x.Box[j]? = some g → RightT d g) := fun j g hj hg => by
          rcases Nat.lt_or_ge j k with u | u
          · exact HN.out j g u hg
          · obtain rfl : j = k := by omega
            have := HT.out.symm.trans hg
            cases this
            exact HBB.out.1 rfl
        clear HN
        go_wp2_with fail
        go_roundw
        case rel => exact ⟨k + 1, by omega, by go_num, HBV.out.1, HF⟩
        case measure => simp [intOf]; omega
    · obtain rfl : k = len := by omega
      have hkl' : decide ((k : Int) < (k : Int)) = false := by simp
      have HAL : Hid (∀ (j : Nat) (g : Tm (d + 1)), x.Box[j]? = some g → RightT d g) := fun j g hg => HN.out j g (by have := (List.getElem?_eq_some_iff.1 hg).1; have := HL.out; omega) hg
      have d0 : wr.cell? ⟨w.heap.size, 0, none⟩ = some (.int .i64 x.Pid) := by rw [cell_of_row wr _ 0 _ _ _ hbx]; rfl
      have d1 : wr.cell? ⟨w.heap.size, 1, none⟩ = some (.string x.Name) := by rw [cell_of_row wr _ 1 _ _ _ hbx]; rfl
      have d2 : wr.cell? ⟨w.heap.size, 2, none⟩ = some (.string x.Mod) := by rw [cell_of_row wr _ 2 _ _ _ hbx]; rfl
      have d3 : wr.cell? ⟨w.heap.size, 3, none⟩ = some (.int .i64 x.No) := by rw [cell_of_row wr _ 3 _ _ _ hbx]; rfl
      have d4 : wr.cell? ⟨w.heap.size, 4, none⟩ = some (.int .i64 i4) := by rw [cell_of_row wr _ 4 _ _ _ hbx]; rfl
      have d5 : wr.cell? ⟨w.heap.size, 5, none⟩ = some (.int .i64 i5) := by rw [cell_of_row wr _ 5 _ _ _ hbx]; rfl
      have d6 : wr.cell? ⟨w.heap.size, 6, none⟩ = some (.string s6) := by rw [cell_of_row wr _ 6 _ _ _ hbx]; rfl
      have d7 : wr.cell? ⟨w.heap.size, 7, none⟩ = some (.slice a7 l7 c7) := by rw [cell_of_row wr _ 7 _ _ _ hbx]; rfl
      clear HN
      have hC := inI_any x.Pid 1 1000000 wr
      go_wp2_with fail
      refine hC.mono ?_
      clear hC
      rintro e V0 ⟨rfl, hw0⟩
      subst hw0
      obtain ⟨b0, hb0⟩ : ∃ b, inI x.Pid 1 1000000 = b := ⟨_, rfl⟩
      have HB0 : Hid (inI x.Pid 1 1000000 = b0) := hb0
      rw [hb0]
      clear hb0
      cases b0 with
      | false =>
        have HF : Hid (¬ pWorkerOk d x) := fun h => by have := HB0.out.symm.trans h.2.1; cases this
        go_wp2_with fail
        go_ret
        exact bres_no HF.out HBW.out
      | true =>
        have hC := specAtomOk_any x.Name wr HWB.out.2.2.1
        go_wp2_with fail
        refine hC.mono ?_
        clear hC
        rintro e V1 ⟨b1, rfl, hb1, hw1⟩
        subst hw1
        have HB1 : Hid (b1 = true ↔ _) := hb1
        clear hb1
        cases b1 with
        | false =>
          have HF : Hid (¬ pWorkerOk d x) := fun h => by have := HB1.out.2 h.2.2.1; cases this
          go_wp2_with fail
          go_ret
          exact bres_no HF.out HBW.out
        | true =>
          have hC := specAtomOk_any x.Mod wr HWB.out.2.2.2
          go_wp2_with fail
          refine hC.mono ?_
          clear hC
          rintro e V2 ⟨b2, rfl, hb2, hw2⟩
          subst hw2
          have HB2 : Hid (b2 = true ↔ _) := hb2
          clear hb2
          cases b2 with
          | false =>
            have HF : Hid (¬ pWorkerOk d x) := fun h => by have := HB2.out.2 h.2.2.2.1; cases this
            go_wp2_with fail
            go_ret
            exact bres_no HF.out HBW.out
          | true =>
            have hC := inI_any x.No 1 10000 wr
            go_wp2_with fail
            refine hC.mono ?_
            clear hC
            rintro e V3 ⟨rfl, hw3⟩
            subst hw3
            obtain ⟨b3, hb3⟩ : ∃ b, inI x.No 1 10000 = b := ⟨_, rfl⟩
            have HB3 : Hid (inI x.No 1 10000 = b3) := hb3
            rw [hb3]
            clear hb3
            cases b3 with
            | false =>
              have HF : Hid (¬ pWorkerOk d x) := fun h => by have := HB3.out.symm.trans h.2.2.2.2.1; cases this
              go_wp2_with fail
              go_ret
              exact bres_no HF.out HBW.out
            | true =>
              have hC := specTm_any d _ x.State wr (HTm.out wr HBW.out) HWB.out.2.1
              go_wp2_with fail
              refine hC.mono ?_
              clear hC d0 d1 d2 d3 d4 d5 d6 d7 d8
              rintro e V4 ⟨b4, rfl, hb4, hB4⟩
              have HB4 : Hid (b4 = true ↔ _) := hb4
              have HBE : Hid (Below w.heap.size w V4) := HBW.out.trans (hB4.mono HBW.out.size)
              have d8 : V4.cell? ⟨w.heap.size, 8, none⟩ = some (.slice a k c) := by rw [cell_of_row V4 _ 8 _ _ _ ((hB4.block _ (lt_row hbx)).trans hbx)]; rfl
              clear hb4 hB4 hbx
              cases b4 with
              | false =>
                have HF : Hid (¬ pWorkerOk d x) := fun h => by have := HB4.out.2 h.2.2.2.2.2.1; cases this
                go_wp2_with fail
                go_ret
                exact bres_no HF.out HBE.out
              | true =>
                by_cases h20 : k ≤ 20
                · have HF : Hid (pWorkerOk d x) := ⟨HAL.out, HB0.out, HB1.out.1 (by simp), HB2.out.1 (by simp), HB3.out, HB4.out.1 (by simp), by rw [HL.out]; exact h20⟩
                  have h20' : decide ((k : Int) ≤ 20) = true := decide_eq_true (by omega)
                  go_wp2_with fail
                  go_ret
                  exact bres_yes HF.out HBE.out
                · have HF : Hid (¬ pWorkerOk d x) := fun h => h20 (by have := h.2.2.2.2.2.2; rw [HL.out] at this; exact this)
                  have h20' : decide ((k : Int) ≤ 20) = false := decide_eq_false (by omega)
                  go_wp2_with fail
                  go_ret
                  exact bres_no HF.out HBE.out

end Go.Proofs.Ytfachfimdenapaa
