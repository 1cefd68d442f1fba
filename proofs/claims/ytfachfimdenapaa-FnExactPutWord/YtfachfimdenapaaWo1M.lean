/- A worker is right: the program's. -/
import Derived.Test.YtfachfimdenapaaDtWorkerM
import Derived.Test.YtfachfimdenapaaVp0M
namespace Go.Proofs.Ytfachfimdenapaa
open Go.RowKit
set_option linter.unusedVariables false

set_option maxRecDepth 100000 in
set_option maxHeartbeats 4000000 in
theorem wok_any (Pd No i4 i5 : Int) (N M s6 : ByteArray) (a7 a : Option Addr) (l7 c7 len c : Nat) (TT BB : Prop) (w : World) (hN : N.size ≤ 9223372036854775807) (hM : M.size ≤ 9223372036854775807)
    (hT : ∀ V : World, Below w.heap.size w V → Calls Try.prog 30 #[.agg #[.int .i64 i4, .int .i64 i5, .string s6, .slice a7 l7 c7]] V fun e w' => BRes TT V e w')
    (hB : ∀ V : World, Below w.heap.size w V → len ≤ 20 → Calls Try.prog 31 #[.slice a len c] V fun e w' => BRes BB V e w') :
    Calls Try.prog 9 #[.agg #[.int .i64 Pd, .string N, .string M, .int .i64 No, .int .i64 i4, .int .i64 i5, .string s6, .slice a7 l7 c7, .slice a len c]] w fun e w' => BRes (1 ≤ Pd ∧ Pd ≤ 1000000 ∧ AtomP N ∧ AtomP M ∧ 1 ≤ No ∧ No ≤ 10000 ∧ TT ∧ len ≤ 20 ∧ BB) w e w' := by
  obtain ⟨W, hW⟩ : ∃ W, W = w.alloc (.cells #[.int .i64 Pd, .string N, .string M, .int .i64 No, .int .i64 i4, .int .i64 i5, .string s6, .slice a7 l7 c7, .slice a len c] 33) := ⟨_, rfl⟩
  have hA : Below w.heap.size w W := by rw [hW]; exact (Below.refl _ _).alloc (Nat.le_refl _) _
  have nA : W.heap[w.heap.size]? = some (.cells #[.int .i64 Pd, .string N, .string M, .int .i64 No, .int .i64 i4, .int .i64 i5, .string s6, .slice a7 l7 c7, .slice a len c] 33 (0, 0)) := by rw [hW]; exact heap_alloc_new w _
  have HN : Hid (W.heap[w.heap.size]? = _) := nA
  have HA : Hid (Below w.heap.size w W) := hA
  have HTM : Hid (∀ V : World, Below w.heap.size w V → Calls Try.prog 30 #[.agg #[.int .i64 i4, .int .i64 i5, .string s6, .slice a7 l7 c7]] V fun e w' => BRes TT V e w') := hT
  have HAR : Hid (∀ V : World, Below w.heap.size w V → len ≤ 20 → Calls Try.prog 31 #[.slice a len c] V fun e w' => BRes BB V e w') := hB
  have HS : Hid (N.size ≤ 9223372036854775807 ∧ M.size ≤ 9223372036854775807) := ⟨hN, hM⟩
  have HW : Hid (W = _) := hW
  rw [hW] at hA
  clear nA hT hB hN hM hW
  obtain ⟨PP, hPP⟩ : ∃ P : Prop, (1 ≤ Pd ∧ Pd ≤ 1000000 ∧ AtomP N ∧ AtomP M ∧ 1 ≤ No ∧ No ≤ 10000 ∧ TT ∧ len ≤ 20 ∧ BB) = P := ⟨_, rfl⟩
  have HPP : Hid ((1 ≤ Pd ∧ Pd ≤ 1000000 ∧ AtomP N ∧ AtomP M ∧ 1 ≤ No ∧ No ≤ 10000 ∧ TT ∧ len ≤ 20 ∧ BB) = PP) := hPP
  rw [hPP]
  clear hPP
  by_cases hc0 : 1 ≤ Pd
  · have HP0 : Hid (1 ≤ Pd) := hc0
    by_cases hc1 : Pd ≤ 1000000
    · have HP1 : Hid (Pd ≤ 1000000) := hc1
      go_enter Try.func9, Try.ntmps9
      go_wp2_with fail
      refine (atomOk_any N _ HS.out.1).mono ?_
      rintro e V2 ⟨b2, rfl, hb2, hw2⟩
      subst hw2
      have HB2 : Hid (b2 = true ↔ AtomP N) := hb2
      clear hb2
      cases b2 with
      | false =>
        have HF : Hid (¬ PP) := by rw [← HPP.out]; exact fun h => by have := HB2.out.2 h.2.2.1; simp at this
        go_wp2_with fail
        go_ret
        exact bres_no HF.out hA
      | true =>
        have HP2 : Hid (AtomP N) := HB2.out.1 (by simp)
        go_wp2_with fail
        refine (atomOk_any M _ HS.out.2).mono ?_
        rintro e V3 ⟨b3, rfl, hb3, hw3⟩
        subst hw3
        have HB3 : Hid (b3 = true ↔ AtomP M) := hb3
        clear hb3
        cases b3 with
        | false =>
          have HF : Hid (¬ PP) := by rw [← HPP.out]; exact fun h => by have := HB3.out.2 h.2.2.2.1; simp at this
          go_wp2_with fail
          go_ret
          exact bres_no HF.out hA
        | true =>
          have HP3 : Hid (AtomP M) := HB3.out.1 (by simp)
          by_cases hc4 : 1 ≤ No
          · have HP4 : Hid (1 ≤ No) := hc4
            by_cases hc5 : No ≤ 10000
            · have HP5 : Hid (No ≤ 10000) := hc5
              have hC := HTM.out W HA.out
              rw [HW.out] at hC
              go_wp2_with fail
              refine hC.mono ?_
              clear hC
              rintro e V6 ⟨b6, rfl, hb6, hB6⟩
              have HB6 : Hid (b6 = true ↔ TT) := hb6
              rw [← HW.out] at hB6
              have HB6w : Hid (Below W.heap.size W V6) := hB6
              have HBV : Hid (Below w.heap.size w V6) := HA.out.trans (hB6.mono HA.out.size)
              have nV := (hB6.block _ (lt_row HN.out)).trans HN.out
              have x0 : V6.cell? ⟨w.heap.size, 0, none⟩ = some (.int .i64 Pd) := by rw [cell_of_row V6 _ 0 _ _ _ nV]; rfl
              have x1 : V6.cell? ⟨w.heap.size, 1, none⟩ = some (.string N) := by rw [cell_of_row V6 _ 1 _ _ _ nV]; rfl
              have x2 : V6.cell? ⟨w.heap.size, 2, none⟩ = some (.string M) := by rw [cell_of_row V6 _ 2 _ _ _ nV]; rfl
              have x3 : V6.cell? ⟨w.heap.size, 3, none⟩ = some (.int .i64 No) := by rw [cell_of_row V6 _ 3 _ _ _ nV]; rfl
              have x4 : V6.cell? ⟨w.heap.size, 4, none⟩ = some (.int .i64 i4) := by rw [cell_of_row V6 _ 4 _ _ _ nV]; rfl
              have x5 : V6.cell? ⟨w.heap.size, 5, none⟩ = some (.int .i64 i5) := by rw [cell_of_row V6 _ 5 _ _ _ nV]; rfl
              have x6 : V6.cell? ⟨w.heap.size, 6, none⟩ = some (.string s6) := by rw [cell_of_row V6 _ 6 _ _ _ nV]; rfl
              have x7 : V6.cell? ⟨w.heap.size, 7, none⟩ = some (.slice a7 l7 c7) := by rw [cell_of_row V6 _ 7 _ _ _ nV]; rfl
              have x8 : V6.cell? ⟨w.heap.size, 8, none⟩ = some (.slice a len c) := by rw [cell_of_row V6 _ 8 _ _ _ nV]; rfl
              clear nV
              clear hb6 hB6
              cases b6 with
              | false =>
                have HF : Hid (¬ PP) := by rw [← HPP.out]; exact fun h => by have := HB6.out.2 h.2.2.2.2.2.2.1; simp at this
                go_wp2_with fail
                go_ret
                exact bres_no HF.out HBV.out
              | true =>
                have HP6 : Hid (TT) := HB6.out.1 (by simp)
                by_cases hc7 : len ≤ 20
                · have HP7 : Hid (len ≤ 20) := hc7
                  have hl20 : (len : Int) ≤ 20 := by omega
                  clear hc7
                  have hC := HAR.out V6 HBV.out HP7.out
                  go_wp2_with fail
                  refine hC.mono ?_
                  clear hC
                  rintro e V8 ⟨b8, rfl, hb8, hB8⟩
                  have HB8 : Hid (b8 = true ↔ BB) := hb8
                  have HBZ : Hid (Below w.heap.size w V8) := HBV.out.trans (hB8.mono HBV.out.size)
                  clear hb8 hB8
                  cases b8 with
                  | false =>
                    have HF : Hid (¬ PP) := by rw [← HPP.out]; exact fun h => by have := HB8.out.2 h.2.2.2.2.2.2.2.2; simp at this
                    go_wp2_with fail
                    go_ret
                    exact bres_no HF.out HBZ.out
                  | true =>
                    have HP8 : Hid (BB) := HB8.out.1 (by simp)
                    have HF : Hid PP := by rw [← HPP.out]; exact ⟨(HP0.out), (HP1.out), (HP2.out), (HP3.out), (HP4.out), (HP5.out), (HP6.out), (HP7.out), (HP8.out)⟩
                    go_wp2_with fail
                    go_ret
                    exact bres_yes HF.out HBZ.out
                · have HF : Hid (¬ PP) := by rw [← HPP.out]; exact fun h => hc7 h.2.2.2.2.2.2.2.1
                  have hl20 : ¬ (len : Int) ≤ 20 := by omega
                  clear hc7
                  go_wp2_with fail
                  go_ret
                  exact bres_no HF.out HBV.out
            · have HF : Hid (¬ PP) := by rw [← HPP.out]; exact fun h => hc5 h.2.2.2.2.2.1
              go_wp2_with fail
              go_ret
              exact bres_no HF.out hA
          · have HF : Hid (¬ PP) := by rw [← HPP.out]; exact fun h => hc4 h.2.2.2.2.1
            go_wp2_with fail
            go_ret
            exact bres_no HF.out hA
    · have HF : Hid (¬ PP) := by rw [← HPP.out]; exact fun h => hc1 h.2.1
      go_enter Try.func9, Try.ntmps9
      go_wp2_with fail
      go_ret
      exact bres_no HF.out hA
  · have HF : Hid (¬ PP) := by rw [← HPP.out]; exact fun h => hc0 h.1
    go_enter Try.func9, Try.ntmps9
    go_wp2_with fail
    go_ret
    exact bres_no HF.out hA

theorem implWorkerOk_any (d : Nat) (vs : List Value) (x : DWorker d) (w : World) (hr : WorkerR d w vs x) (hw : WfWorker d x) (hz : szWorkerD d x ≤ 1048576) :
    Calls Try.prog 9 #[.agg vs.toArray] w fun e w' => BRes (pWorkerOk d x) w e w' := by
  have hz' : x.Name.size + (x.Mod.size + (szTm d x.State + szL (d + 1) x.Box)) ≤ 1048576 := hz
  have hbl := szL_len x.Box
  obtain ⟨v4, v5, v6, v7, v8, rfl, h0, h1⟩ := hr
  obtain ⟨i4, i5, s6, a7, l7, c7, esh⟩ := TmR.shape d _ _ _ h0
  cases esh
  obtain ⟨a, c, rfl⟩ := RdL.len1 h1
  refine (wok_any x.Pid x.No i4 i5 x.Name x.Mod s6 a7 a l7 c7 x.Box.length c (RightT d x.State) (∀ (i : Nat) (t : Tm (d + 1)), x.Box[i]? = some t → RightT d t) w (len_max hw.2.1) (len_max hw.2.2.1) (fun V hV => implTm_any d _ x.State V (TmR.lasts d _ _ _ _ h0 hV) hw.2.2.2.2.1) fun V hV _ => allRight_any d a x.Box.length c x.Box V (h1.later hV) hw.2.2.2.2.2 rfl (by omega)).mono ?_
  rintro e w' ⟨b, he, hb, hB⟩
  refine ⟨b, he, hb.trans ?_, hB⟩
  unfold pWorkerOk inI
  simp only [Bool.and_eq_true, decide_eq_true_eq]
  constructor
  · rintro ⟨h1, h2, h3, h4, h5, h6, h7, h8, h9⟩
    exact ⟨h9, ⟨h1, h2⟩, h3, h4, ⟨h5, h6⟩, h7, h8⟩
  · rintro ⟨h9, ⟨h1, h2⟩, h3, h4, ⟨h5, h6⟩, h7, h8⟩
    exact ⟨h1, h2, h3, h4, h5, h6, h7, h8, h9⟩

end Go.Proofs.Ytfachfimdenapaa
