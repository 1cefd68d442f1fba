/- Overseers that are right: the program's, whole. -/
import Derived.Test.YtgmddookohkhlaaOo4M
import Derived.Test.YtgmddookohkhlaaLp1M
namespace Go.Proofs.Ytgmddookohkhlaa
open Go.RowKit
set_option linter.unusedVariables false

theorem enters_wover : ∀ args w, (callFunc 40 args).run Try.prog w = .ok (.enter 40 args) w := enters_of Try.func40 (by kernel_rfl) rfl

set_option maxRecDepth 100000 in
set_option maxHeartbeats 2000000 in
theorem isWrongOver_any (d : Nat) (vs : List Value) (x : DOver d) (w : World) (hr : OverR d w vs x) (hw : WfOver d x) (hz : szOverD d x ≤ 1048576) :
    Calls Try.prog 40 #[.agg vs.toArray] w fun e w' => BRes (¬ pOverOk d x) w e w' := by
  obtain ⟨a0, a1, a2, b3, m3, k3, b4, m4, k4, b5, m5, k5, e6, rfl⟩ := OverR.shape d _ _ _ hr
  have hA : Below w.heap.size w (w.alloc (.cells #[.int .i64 a0, .int .i64 a1, .int .i64 a2, .slice b3 m3 k3, .slice b4 m4 k4, .slice b5 m5 k5, .bool e6] 30)) := (Below.refl _ _).alloc (Nat.le_refl _) _
  have hC := implOverOk_any d _ x _ (OverR.lasts d _ _ _ _ hr hA) hw hz
  have HA : Hid (Below w.heap.size w (w.alloc (.cells #[.int .i64 a0, .int .i64 a1, .int .i64 a2, .slice b3 m3 k3, .slice b4 m4 k4, .slice b5 m5 k5, .bool e6] 30))) := hA
  obtain ⟨PP, hPP⟩ : ∃ P : Prop, pOverOk d x = P := ⟨_, rfl⟩
  rw [hPP] at hC ⊢
  clear hPP hr hw hz hA
  go_enter Try.func40, Try.ntmps40
  go_wp2_with fail
  refine hC.mono ?_
  clear hC
  rintro e V ⟨b, rfl, hb, hB⟩
  have HF : Hid ((!b) = true ↔ ¬ PP) := by
    show (!b) = true ↔ ¬ PP
    rw [← hb]
    cases b <;> simp
  have HBV := HA.out.trans (hB.mono HA.out.size)
  clear hb hB
  go_wp2_with fail
  go_ret
  exact ⟨_, rfl, HF.out, HBV⟩

set_option maxRecDepth 100000 in
set_option maxHeartbeats 4000000 in
theorem implOversOk_any (d : Nat) (v : Value) (l : List (DOver d)) (w : World) (hr : RowOf 7 (OverR d) w v l) (hw : WfRow (WfOver d) l) (hz : szRow (szOverD d) l ≤ 1048576) :
    Calls Try.prog 15 #[v] w fun e w' => BRes (pOversOk d l) w e w' := by
  obtain ⟨a, c, rfl⟩ := hr.slice
  have hos : (oSubs l).length ≤ 1048576 := Nat.le_trans (oSubs_len l) (Nat.le_trans (Nat.le_add_left _ _) hz)
  have hll := szRow_len (szOverD d) l
  have hC := containsOver_any d 40 (fun o => ¬ pOverOk d o) enters_wover (fun vs t w hr hw => isWrongOver_any d vs t w hr hw.1 hw.2) a l.length c l w hr ⟨hw.1, fun o ho => ⟨hw.2 o ho, Nat.le_trans (sz_elem ho) hz⟩⟩ rfl (by omega)
  obtain ⟨n, hn⟩ : ∃ n, l.length = n := ⟨_, rfl⟩
  obtain ⟨PP, hPP⟩ : ∃ P : Prop, pOversOk d l = P := ⟨_, rfl⟩
  have HPP : Hid (((1 ≤ n ∧ n ≤ 8) ∧ (∀ (i : Nat) (o : DOver d), l[i]? = some o → OneP d l i o) ∧ (oNames l).Nodup) = PP) := by rw [← hn]; exact hPP
  obtain ⟨RR, hRR⟩ : ∃ Q : Prop, (∃ (i : Nat) (t : DOver d), l[i]? = some t ∧ ¬ pOverOk d t) = Q := ⟨_, rfl⟩
  have HRR : Hid ((∃ (i : Nat) (t : DOver d), l[i]? = some t ∧ ¬ pOverOk d t) = RR) := hRR
  rw [hn] at hr hll hC ⊢
  rw [hRR] at hC
  rw [hPP]
  have HR : Hid (RowOf 7 (OverR d) w (.slice a n c) l ∧ l.length = n ∧ (oSubs l).length ≤ 1048576) := ⟨hr, hn, hos⟩
  have hmf : ∀ (fn : Fn) (first cap : Array Value) (w : World), (Instr.makeFunc fn first cap).run Try.prog w = .ok (.func fn first cap) w := fun _ _ _ _ => rfl
  clear hr hw hz hos hn hPP hRR hll
  by_cases h1 : 1 ≤ n
  case neg =>
    have h1' : ¬ (1 : Int) ≤ (n : Int) := by omega
    have HF : Hid (¬ PP) := by rw [← HPP.out]; exact fun h => h1 h.1.1
    clear hC
    go_enter Try.func15, Try.ntmps15
    go_wp2_with fail
    go_ret
    exact bres_no HF.out (Below.refl _ _)
  by_cases h8 : n ≤ 8
  case neg =>
    have h1' : (1 : Int) ≤ (n : Int) := by omega
    have h8' : ¬ (n : Int) ≤ 8 := by omega
    have HF : Hid (¬ PP) := by rw [← HPP.out]; exact fun h => h8 h.1.2
    clear hC
    go_enter Try.func15, Try.ntmps15
    go_wp2_with fail
    go_ret
    exact bres_no HF.out (Below.refl _ _)
  have h1' : (1 : Int) ≤ (n : Int) := by omega
  have h8' : (n : Int) ≤ 8 := by omega
  have HN18 : Hid (1 ≤ n ∧ n ≤ 8) := ⟨h1, h8⟩
  go_enter Try.func15, Try.ntmps15
  go_wp2_with fail
  refine hC.mono ?_
  clear hC
  rintro e V ⟨b, rfl, hb, hB⟩
  have HBV : Hid (Below w.heap.size w V) := hB
  have HBB : Hid (b = true ↔ RR) := hb
  clear hb hB
  cases b with
  | true =>
    have HF : Hid (¬ PP) := by
      have h := HBB.out.1 rfl
      rw [← HRR.out] at h
      obtain ⟨i, t, hi, ht⟩ := h
      rw [← HPP.out]
      exact fun h => ht (h.2.1 i t hi).1
    go_wp2_with fail
    go_ret
    exact bres_no HF.out HBV.out
  | false =>
  have HOK : Hid (∀ (i : Nat) (o : DOver d), l[i]? = some o → pOverOk d o) := fun i o ho => Classical.byContradiction fun h => by
    have h2 : RR := by rw [← HRR.out]; exact ⟨i, o, ho, h⟩
    have := HBB.out.2 h2
    cases this
  have HKS : Hid (∀ o ∈ l, ∀ k ∈ o.Kids, k.Sub = -1 ∨ 0 ≤ k.Sub) := fun o ho k hk => by
    obtain ⟨i, hi⟩ := List.mem_iff_getElem?.1 ho
    obtain ⟨j, hj⟩ := List.mem_iff_getElem?.1 hk
    rcases ((HOK.out i o hi).2.1.1 j k hj).2 with h | h
    · exact .inr h.1
    · exact .inl h.1
  have HK8 : Hid (∀ o ∈ l, o.Kids.length ≤ 8) := fun o ho => by
    obtain ⟨i, hi⟩ := List.mem_iff_getElem?.1 ho
    exact (HOK.out i o hi).kids
  have hC := subsFit_any d a n c l V (HR.out.1.later (OverR.lasts d) HBV.out) HR.out.2.1 HN18.out HR.out.2.2 HKS.out
  obtain ⟨SS, hSS⟩ : ∃ Q : Prop, (∀ (i : Nat) (o : DOver d), l[i]? = some o → (0 < i → (oSubs l).count (i : Int) = 1) ∧ RangeP l.length i o.Kids) = Q := ⟨_, rfl⟩
  have HSS : Hid (_ = SS) := hSS
  rw [hSS] at hC
  clear hSS
  go_wp2_with fail
  refine hC.mono ?_
  clear hC
  rintro e V2 ⟨b2, rfl, hb, hB⟩
  have HBV2 : Hid (Below w.heap.size w V2) := HBV.out.trans (hB.mono HBV.out.size)
  have HBB2 : Hid (b2 = true ↔ SS) := hb
  clear hb hB
  cases b2 with
  | false =>
    have HF : Hid (¬ PP) := by
      rw [← HPP.out]
      intro h
      have : SS := by rw [← HSS.out]; exact fun i o ho => (h.2.1 i o ho).2
      have := HBB2.out.2 this
      cases this
    go_wp2_with fail
    go_ret
    exact bres_no HF.out HBV2.out
  | true =>
  have HALL : Hid (∀ (i : Nat) (o : DOver d), l[i]? = some o → OneP d l i o) := by
    have h2 := HBB2.out.1 rfl
    rw [← HSS.out] at h2
    exact fun i o ho => ⟨HOK.out i o ho, h2 i o ho⟩
  have hC := implNames_any d a n c l V2 (HR.out.1.later (OverR.lasts d) HBV2.out) HR.out.2.1 HN18.out.2 HK8.out
  go_wp2_with fail
  refine hC.mono ?_
  clear hC
  rintro e V3 ⟨v, rfl, HS⟩
  have HBV3 : Hid (Below w.heap.size w V3) := HBV2.out.trans (HS.out.2.mono HBV2.out.size)
  have hC := noneTwice_any v (oNames l) V2.heap.size V3 HS.out.1 (by
    have h2 := oNames_len l HK8.out
    have h3 := HR.out.2.1
    have := HN18.out.2
    omega) HS.out.2.size
  have HV2 : Hid (w.heap.size ≤ V2.heap.size) := HBV2.out.size
  go_wp2_with fail
  refine hC.mono ?_
  clear hC
  rintro e X ⟨b3, rfl, HB3, hX⟩
  have HBX : Hid (Below w.heap.size w X) := HBV3.out.trans (hX.mono HV2.out)
  have HF : Hid (b3 = true ↔ PP) := by
    show b3 = true ↔ PP
    rw [← HPP.out]
    exact HB3.out.trans ⟨fun h => ⟨HN18.out, HALL.out, h⟩, fun h => h.2.2⟩
  clear hX HB3
  go_wp2_with fail
  go_ret
  exact ⟨_, rfl, HF.out, HBX.out⟩

end Go.Proofs.Ytgmddookohkhlaa
