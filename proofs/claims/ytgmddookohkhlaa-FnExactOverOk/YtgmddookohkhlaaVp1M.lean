/- A slot that has nothing, slots and terms that are right: the program's. -/
import Derived.Test.YtgmddookohkhlaaVo1M
import Derived.Test.YtgmddookohkhlaaVp0M
import Derived.Test.YtgmddookohkhlaaDt0M
namespace Go.Proofs.Ytgmddookohkhlaa
open Go.RowKit
set_option linter.unusedVariables false

set_option maxRecDepth 100000 in
set_option maxHeartbeats 2000000 in
theorem isNothing_any (k n : Int) (s : ByteArray) (a : Option Addr) (len c : Nat) (w : World) (hs : s.size ≤ 9223372036854775807) (hlen : len ≤ 9223372036854775807) :
    Calls Try.prog 82 #[.agg #[.int .i64 k, .int .i64 n, .string s, .slice a len c]] w fun e w' => BRes (k = 0 ∧ n = 0 ∧ s.size = 0 ∧ len = 0) w e w' := by
  have hA : Below w.heap.size w (w.alloc (.cells #[.int .i64 k, .int .i64 n, .string s, .slice a len c] 53)) := (Below.refl _ _).alloc (Nat.le_refl _) _
  obtain ⟨PP, hPP⟩ : ∃ P : Prop, (k = 0 ∧ n = 0 ∧ s.size = 0 ∧ len = 0) = P := ⟨_, rfl⟩
  have HPP : Hid ((k = 0 ∧ n = 0 ∧ s.size = 0 ∧ len = 0) = PP) := hPP
  rw [hPP]
  clear hPP
  by_cases hc0 : k = 0
  · have HP0 : Hid (k = 0) := hc0
    have hk0 : (k == 0) = true := by simp [hc0]
    clear hc0
    by_cases hc1 : n = 0
    · have HP1 : Hid (n = 0) := hc1
      have hn0 : (n == 0) = true := by simp [hc1]
      clear hc1
      by_cases hc2 : s.size = 0
      · have HP2 : Hid (s.size = 0) := hc2
        have he : s.toList.isEmpty = true := (empty_iff s).2 hc2
        clear hc2
        by_cases hc3 : len = 0
        · have HP3 : Hid (len = 0) := hc3
          have hl0 : ((len : Int) == 0) = true := by simp [hc3]
          clear hc3
          have HF : Hid PP := by rw [← HPP.out]; exact ⟨(HP0.out), (HP1.out), (HP2.out), (HP3.out)⟩
          go_enter Try.func82, Try.ntmps82
          go_wp2_with fail
          go_ret
          exact bres_yes HF.out hA
        · have HF : Hid (¬ PP) := by rw [← HPP.out]; exact fun h => hc3 h.2.2.2
          have hl0 : ((len : Int) == 0) = false := by simp [hc3]
          clear hc3
          go_enter Try.func82, Try.ntmps82
          go_wp2_with fail
          go_ret
          exact bres_no HF.out hA
      · have HF : Hid (¬ PP) := by rw [← HPP.out]; exact fun h => hc2 h.2.2.1
        have he : s.toList.isEmpty = false := empty_no hc2
        clear hc2
        go_enter Try.func82, Try.ntmps82
        go_wp2_with fail
        go_ret
        exact bres_no HF.out hA
    · have HF : Hid (¬ PP) := by rw [← HPP.out]; exact fun h => hc1 h.2.1
      have hn0 : (n == 0) = false := by simp [hc1]
      clear hc1
      go_enter Try.func82, Try.ntmps82
      go_wp2_with fail
      go_ret
      exact bres_no HF.out hA
  · have HF : Hid (¬ PP) := by rw [← HPP.out]; exact fun h => hc0 h.1
    have hk0 : (k == 0) = false := by simp [hc0]
    clear hc0
    go_enter Try.func82, Try.ntmps82
    go_wp2_with fail
    go_ret
    exact bres_no HF.out hA


end Go.Proofs.Ytgmddookohkhlaa

/- A kid that is right: the model's and the program's. -/
namespace Go.Proofs.Ytgmddookohkhlaa
open Go.RowKit
set_option linter.unusedVariables false

/-- A kid that is right: an overseer, or a worker. -/
def KidP (d : Nat) (x : DKid d) : Prop := AtomP x.Name ∧ ((0 ≤ x.Sub ∧ x.Mod.size = 0 ∧ ZeroT x.Init) ∨ (x.Sub = -1 ∧ AtomP x.Mod ∧ RightT d x.Init))

set_option maxRecDepth 100000 in
set_option maxHeartbeats 4000000 in
theorem l14Kid_any (d : Nat) (vs : List Value) (x : DKid d) (w : World) (hr : KidR d w vs x) (hw : WfKid d x) :
    Calls Try.prog 29 #[.agg vs.toArray] w fun e w' => BRes (KidP d x) w e w' := by
  obtain ⟨v2, v3, v4, v5, rfl, lv, e, h⟩ := hr
  cases e
  obtain ⟨a, c, rfl⟩ := h.len
  obtain ⟨w1, w2, w3, w4⟩ := hw
  have hA : Below w.heap.size w (w.alloc (.cells #[.string x.Name, .string x.Mod, .int .i64 x.Init.K, .int .i64 x.Init.N, .string x.Init.S, .slice a x.Init.L.length c, .int .i64 x.Sub] 55)) := (Below.refl _ _).alloc (Nat.le_refl _) _
  have HT : Hid (Calls Try.prog 54 #[.agg #[.int .i64 x.Init.K, .int .i64 x.Init.N, .string x.Init.S, .slice a x.Init.L.length c]] (w.alloc (.cells #[.string x.Name, .string x.Mod, .int .i64 x.Init.K, .int .i64 x.Init.N, .string x.Init.S, .slice a x.Init.L.length c, .int .i64 x.Sub] 55)) fun e w' => BRes (RightT d x.Init) (w.alloc (.cells #[.string x.Name, .string x.Mod, .int .i64 x.Init.K, .int .i64 x.Init.N, .string x.Init.S, .slice a x.Init.L.length c, .int .i64 x.Sub] 55)) e w') := specTm_any d _ x.Init _ ⟨_, rfl, h.later hA⟩ w3
  have HZ : Hid (Calls Try.prog 53 #[.agg #[.int .i64 x.Init.K, .int .i64 x.Init.N, .string x.Init.S, .slice a x.Init.L.length c]] (w.alloc (.cells #[.string x.Name, .string x.Mod, .int .i64 x.Init.K, .int .i64 x.Init.N, .string x.Init.S, .slice a x.Init.L.length c, .int .i64 x.Sub] 55)) fun e w' => BRes (ZeroT x.Init) (w.alloc (.cells #[.string x.Name, .string x.Mod, .int .i64 x.Init.K, .int .i64 x.Init.N, .string x.Init.S, .slice a x.Init.L.length c, .int .i64 x.Sub] 55)) e w') := l10Zero_any x.Init.K x.Init.N x.Init.S a x.Init.L.length c _ (len_max w3.2.2.1) (by exact w3.2.2.2.len)
  have HA : Hid (Below w.heap.size w (w.alloc (.cells #[.string x.Name, .string x.Mod, .int .i64 x.Init.K, .int .i64 x.Init.N, .string x.Init.S, .slice a x.Init.L.length c, .int .i64 x.Sub] 55))) := hA
  have HS : Hid (x.Name.size ≤ 9223372036854775807 ∧ x.Mod.size ≤ 9223372036854775807) := ⟨len_max w1, len_max w2⟩
  obtain ⟨PP, hPP⟩ : ∃ P : Prop, (KidP d x) = P := ⟨_, rfl⟩
  have HPP : Hid ((KidP d x) = PP) := hPP
  show Calls Try.prog _ _ _ fun e w' => BRes (KidP d x) w e w'
  rw [hPP]
  clear hPP hA h w1 w2 w3 w4
  by_cases hs : 0 ≤ x.Sub
  · have HSB : Hid (0 ≤ x.Sub) := hs
    go_enter Try.func29, Try.ntmps29
    go_wp2_with fail
    refine (specAtomOk_any x.Name _ HS.out.1).mono ?_
    rintro e V1 ⟨b1, rfl, hb1, hw1⟩
    subst hw1
    have HB1 : Hid (b1 = true ↔ AtomP x.Name) := hb1
    clear hb1
    cases b1 with
    | false =>
      have HF : Hid (¬ PP) := by
        show ¬ PP
        rw [← HPP.out]
        exact fun h => by have := HB1.out.2 h.1; cases this
      go_wp2_with fail
      go_ret
      exact bres_no HF.out HA.out
    | true =>
      by_cases hm : x.Mod.size = 0
      · have he : x.Mod.toList.isEmpty = true := (empty_iff _).2 hm
        have HM : Hid (x.Mod.size = 0) := hm
        clear hm
        go_wp2_with fail
        refine HZ.out.mono ?_
        rintro e V ⟨bb, rfl, hbb, hB⟩
        have HBV : Hid (Below w.heap.size w V) := HA.out.trans (hB.mono HA.out.size)
        have HBB : Hid (bb = true ↔ ZeroT x.Init) := hbb
        clear hB hbb
        cases bb with
        | false =>
          have HF : Hid (¬ PP) := by
            show ¬ PP
            rw [← HPP.out]
            exact fun h => by rcases h.2 with h | h; (have := HBB.out.2 h.2.2; cases this); (have := HSB.out; omega)
          go_wp2_with fail
          go_ret
          exact bres_no HF.out HBV.out
        | true =>
          have HF : Hid (PP) := by
            show PP
            rw [← HPP.out]
            exact ⟨HB1.out.1 (by simp), .inl ⟨HSB.out, HM.out, HBB.out.1 (by simp)⟩⟩
          go_wp2_with fail
          go_ret
          exact bres_yes HF.out HBV.out
      · have he : x.Mod.toList.isEmpty = false := empty_no hm
        have HM : Hid (¬ x.Mod.size = 0) := hm
        clear hm
        have HF : Hid (¬ PP) := by
          show ¬ PP
          rw [← HPP.out]
          exact fun h => by rcases h.2 with h | h; (exact HM.out h.2.1); (have := HSB.out; omega)
        go_wp2_with fail
        go_ret
        exact bres_no HF.out HA.out
  · have HSB : Hid (¬ 0 ≤ x.Sub) := hs
    go_enter Try.func29, Try.ntmps29
    go_wp2_with fail
    refine (specAtomOk_any x.Name _ HS.out.1).mono ?_
    rintro e V1 ⟨b1, rfl, hb1, hw1⟩
    subst hw1
    have HB1 : Hid (b1 = true ↔ AtomP x.Name) := hb1
    clear hb1
    cases b1 with
    | false =>
      have HF : Hid (¬ PP) := by
        show ¬ PP
        rw [← HPP.out]
        exact fun h => by have := HB1.out.2 h.1; cases this
      go_wp2_with fail
      go_ret
      exact bres_no HF.out HA.out
    | true =>
      by_cases hm : x.Sub = -1
      case neg =>
        have hmb : (x.Sub == -1) = false := by simp [hm]
        have HM : Hid (¬ x.Sub = -1) := hm
        clear hm
        have HF : Hid (¬ PP) := by
          show ¬ PP
          rw [← HPP.out]
          exact fun h => by rcases h.2 with h | h; (have h1 := h.1; have h2 := HSB.out; omega); (exact HM.out h.1)
        go_wp2_with fail
        go_ret
        exact bres_no HF.out HA.out
      have hmb : (x.Sub == -1) = true := by simp [hm]
      have HM : Hid (x.Sub = -1) := hm
      clear hm
      go_wp2_with fail
      refine (specAtomOk_any x.Mod _ HS.out.2).mono ?_
      rintro e V2 ⟨b2, rfl, hb2, hw2⟩
      subst hw2
      have HB2 : Hid (b2 = true ↔ AtomP x.Mod) := hb2
      clear hb2
      cases b2 with
      | false =>
        have HF : Hid (¬ PP) := by
          show ¬ PP
          rw [← HPP.out]
          exact fun h => by rcases h.2 with h | h; (have h1 := h.1; have h2 := HSB.out; omega); (have := HB2.out.2 h.2.1; cases this)
        go_wp2_with fail
        go_ret
        exact bres_no HF.out HA.out
      | true =>
        go_wp2_with fail
        refine HT.out.mono ?_
        rintro e V ⟨bb, rfl, hbb, hB⟩
        have HBV : Hid (Below w.heap.size w V) := HA.out.trans (hB.mono HA.out.size)
        have HBB : Hid (bb = true ↔ RightT d x.Init) := hbb
        clear hB hbb
        cases bb with
        | false =>
          have HF : Hid (¬ PP) := by
            show ¬ PP
            rw [← HPP.out]
            exact fun h => by rcases h.2 with h | h; (have h1 := h.1; have h2 := HSB.out; omega); (have := HBB.out.2 h.2.2; cases this)
          go_wp2_with fail
          go_ret
          exact bres_no HF.out HBV.out
        | true =>
          have HF : Hid (PP) := by
            show PP
            rw [← HPP.out]
            exact ⟨HB1.out.1 (by simp), .inr ⟨HM.out, HB2.out.1 (by simp), HBB.out.1 (by simp)⟩⟩
          go_wp2_with fail
          go_ret
          exact bres_yes HF.out HBV.out

set_option maxRecDepth 100000 in
set_option maxHeartbeats 4000000 in
theorem isWrongKid_any (d : Nat) (vs : List Value) (x : DKid d) (w : World) (hr : KidR d w vs x) (hw : WfKid d x) :
    Calls Try.prog 57 #[.agg vs.toArray] w fun e w' => BRes (¬ KidP d x) w e w' := by
  obtain ⟨v2, v3, v4, v5, rfl, lv, e, h⟩ := hr
  cases e
  obtain ⟨a, c, rfl⟩ := h.len
  obtain ⟨w1, w2, w3, w4⟩ := hw
  have hA : Below w.heap.size w (w.alloc (.cells #[.string x.Name, .string x.Mod, .int .i64 x.Init.K, .int .i64 x.Init.N, .string x.Init.S, .slice a x.Init.L.length c, .int .i64 x.Sub] 55)) := (Below.refl _ _).alloc (Nat.le_refl _) _
  have HT : Hid (Calls Try.prog 81 #[.agg #[.int .i64 x.Init.K, .int .i64 x.Init.N, .string x.Init.S, .slice a x.Init.L.length c]] (w.alloc (.cells #[.string x.Name, .string x.Mod, .int .i64 x.Init.K, .int .i64 x.Init.N, .string x.Init.S, .slice a x.Init.L.length c, .int .i64 x.Sub] 55)) fun e w' => BRes (RightT d x.Init) (w.alloc (.cells #[.string x.Name, .string x.Mod, .int .i64 x.Init.K, .int .i64 x.Init.N, .string x.Init.S, .slice a x.Init.L.length c, .int .i64 x.Sub] 55)) e w') := implTm_any d _ x.Init _ ⟨_, rfl, h.later hA⟩ w3
  have HZ : Hid (Calls Try.prog 82 #[.agg #[.int .i64 x.Init.K, .int .i64 x.Init.N, .string x.Init.S, .slice a x.Init.L.length c]] (w.alloc (.cells #[.string x.Name, .string x.Mod, .int .i64 x.Init.K, .int .i64 x.Init.N, .string x.Init.S, .slice a x.Init.L.length c, .int .i64 x.Sub] 55)) fun e w' => BRes (ZeroT x.Init) (w.alloc (.cells #[.string x.Name, .string x.Mod, .int .i64 x.Init.K, .int .i64 x.Init.N, .string x.Init.S, .slice a x.Init.L.length c, .int .i64 x.Sub] 55)) e w') := isNothing_any x.Init.K x.Init.N x.Init.S a x.Init.L.length c _ (len_max w3.2.2.1) (by exact w3.2.2.2.len)
  have HA : Hid (Below w.heap.size w (w.alloc (.cells #[.string x.Name, .string x.Mod, .int .i64 x.Init.K, .int .i64 x.Init.N, .string x.Init.S, .slice a x.Init.L.length c, .int .i64 x.Sub] 55))) := hA
  have HS : Hid (x.Name.size ≤ 9223372036854775807 ∧ x.Mod.size ≤ 9223372036854775807) := ⟨len_max w1, len_max w2⟩
  obtain ⟨PP, hPP⟩ : ∃ P : Prop, (¬ KidP d x) = P := ⟨_, rfl⟩
  have HPP : Hid ((¬ KidP d x) = PP) := hPP
  show Calls Try.prog _ _ _ fun e w' => BRes (¬ KidP d x) w e w'
  rw [hPP]
  clear hPP hA h w1 w2 w3 w4
  by_cases hm : x.Sub = -1
  · have hmb : (x.Sub == -1) = true := by simp [hm]
    have HM : Hid (x.Sub = -1) := hm
    clear hm
    go_enter Try.func57, Try.ntmps57
    go_wp2_with fail
    refine (atomOk_any x.Name _ HS.out.1).mono ?_
    rintro e V1 ⟨b1, rfl, hb1, hw1⟩
    subst hw1
    have HB1 : Hid (b1 = true ↔ AtomP x.Name) := hb1
    clear hb1
    cases b1 with
    | false =>
      have HF : Hid (PP) := by
        show PP
        rw [← HPP.out]
        exact fun h => by have := HB1.out.2 h.1; cases this
      go_wp2_with fail
      go_ret
      exact bres_yes HF.out HA.out
    | true =>
      go_wp2_with fail
      refine (atomOk_any x.Mod _ HS.out.2).mono ?_
      rintro e V2 ⟨b2, rfl, hb2, hw2⟩
      subst hw2
      have HB2 : Hid (b2 = true ↔ AtomP x.Mod) := hb2
      clear hb2
      cases b2 with
      | false =>
        have HF : Hid (PP) := by
          show PP
          rw [← HPP.out]
          exact fun h => by rcases h.2 with h | h; (have := HM.out; omega); (have := HB2.out.2 h.2.1; cases this)
        go_wp2_with fail
        go_ret
        exact bres_yes HF.out HA.out
      | true =>
        go_wp2_with fail
        refine HT.out.mono ?_
        rintro e V ⟨bb, rfl, hbb, hB⟩
        have HBV : Hid (Below w.heap.size w V) := HA.out.trans (hB.mono HA.out.size)
        have HBB : Hid (bb = true ↔ RightT d x.Init) := hbb
        clear hB hbb
        cases bb with
        | false =>
          have HF : Hid (PP) := by
            show PP
            rw [← HPP.out]
            exact fun h => by rcases h.2 with h | h; (have := HM.out; omega); (have := HBB.out.2 h.2.2; cases this)
          go_wp2_with fail
          go_ret
          exact bres_yes HF.out HBV.out
        | true =>
          have HF : Hid (¬ PP) := by
            show ¬ PP
            rw [← HPP.out]
            exact fun h => h ⟨HB1.out.1 (by simp), .inr ⟨HM.out, HB2.out.1 (by simp), HBB.out.1 (by simp)⟩⟩
          go_wp2_with fail
          go_ret
          exact bres_no HF.out HBV.out
  · have hmb : (x.Sub == -1) = false := by simp [hm]
    have HM : Hid (¬ x.Sub = -1) := hm
    clear hm
    go_enter Try.func57, Try.ntmps57
    go_wp2_with fail
    refine (atomOk_any x.Name _ HS.out.1).mono ?_
    rintro e V1 ⟨b1, rfl, hb1, hw1⟩
    subst hw1
    have HB1 : Hid (b1 = true ↔ AtomP x.Name) := hb1
    clear hb1
    cases b1 with
    | false =>
      have HF : Hid (PP) := by
        show PP
        rw [← HPP.out]
        exact fun h => by have := HB1.out.2 h.1; cases this
      go_wp2_with fail
      go_ret
      exact bres_yes HF.out HA.out
    | true =>
      by_cases hs : x.Sub < 0
      · have HSB : Hid (x.Sub < 0) := hs
        have HF : Hid (PP) := by
          show PP
          rw [← HPP.out]
          exact fun h => by rcases h.2 with h | h; (have := HSB.out; omega); (exact HM.out h.1)
        go_wp2_with fail
        go_ret
        exact bres_yes HF.out HA.out
      · have HSB : Hid (¬ x.Sub < 0) := hs
        have hsd : decide (x.Sub < 0) = false := decide_eq_false hs
        by_cases hz : x.Mod.size = 0
        · have he : x.Mod.toList.isEmpty = true := (empty_iff _).2 hz
          have HZM : Hid (x.Mod.size = 0) := hz
          clear hz
          go_wp2_with fail
          refine HZ.out.mono ?_
          rintro e V ⟨bb, rfl, hbb, hB⟩
          have HBV : Hid (Below w.heap.size w V) := HA.out.trans (hB.mono HA.out.size)
          have HBB : Hid (bb = true ↔ ZeroT x.Init) := hbb
          clear hB hbb
          cases bb with
          | false =>
            have HF : Hid (PP) := by
              show PP
              rw [← HPP.out]
              exact fun h => by rcases h.2 with h | h; (have := HBB.out.2 h.2.2; cases this); (exact HM.out h.1)
            go_wp2_with fail
            go_ret
            exact bres_yes HF.out HBV.out
          | true =>
            have HF : Hid (¬ PP) := by
              show ¬ PP
              rw [← HPP.out]
              exact fun h => h ⟨HB1.out.1 (by simp), .inl ⟨by have := HSB.out; omega, HZM.out, HBB.out.1 (by simp)⟩⟩
            go_wp2_with fail
            go_ret
            exact bres_no HF.out HBV.out
        · have he : x.Mod.toList.isEmpty = false := empty_no hz
          have HZM : Hid (¬ x.Mod.size = 0) := hz
          clear hz
          have HF : Hid (PP) := by
            show PP
            rw [← HPP.out]
            exact fun h => by rcases h.2 with h | h; (exact HZM.out h.2.1); (exact HM.out h.1)
          go_wp2_with fail
          go_ret
          exact bres_yes HF.out HA.out

end Go.Proofs.Ytgmddookohkhlaa
