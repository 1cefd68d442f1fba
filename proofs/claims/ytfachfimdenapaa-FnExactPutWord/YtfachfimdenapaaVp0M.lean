/- Terms of a list that are all right: the program's. -/
import Derived.Test.YtfachfimdenapaaDt0M
import Derived.Test.YtfachfimdenapaaIOkM
import Derived.Shelf.Abstract
namespace Go.Proofs.Ytfachfimdenapaa
open Go.RowKit
set_option linter.unusedVariables false

theorem implTm_any (d : Nat) (vs : List Value) (t : Tm (d + 1)) (w : World) (hr : TmR d w vs t) (hw : WfTm d t) :
    Calls Try.prog 30 #[.agg vs.toArray] w fun e w' => BRes (RightT d t) w e w' := by
  obtain ⟨lv, rfl, h⟩ := hr
  exact termOk_any d t.K t.N t.S lv t.L w h hw.2.2.2 (len_max hw.2.2.1)

/-- A function value that tells whether P holds of a term. -/
def ToldT (d g : Nat) (P : Tm (d + 1) → Prop) : Prop := ∀ (vs : List Value) (t : Tm (d + 1)) (w : World), TmR d w vs t → WfTm d t → Calls Try.prog g #[.agg vs.toArray] w fun e w' => BRes (P t) w e w'

theorem enters_right1 : ∀ args w, (callFunc 49 args).run Try.prog w = .ok (.enter 49 args) w := enters_of Try.func49 (by kernel_rfl) rfl

set_option maxRecDepth 100000 in
set_option maxHeartbeats 2000000 in
theorem allRight1_any (d : Nat) : ToldT d 49 fun t => ¬ RightT d t := by
  intro vs t w hr hw
  obtain ⟨i0, i1, s2, a3, l3, c3, rfl⟩ := TmR.shape d _ _ _ hr
  obtain ⟨W, hW⟩ : ∃ W, W = w.alloc (.cells #[.int .i64 i0, .int .i64 i1, .string s2, .slice a3 l3 c3] 31) := ⟨_, rfl⟩
  have hA : Below w.heap.size w W := by rw [hW]; exact (Below.refl _ _).alloc (Nat.le_refl _) _
  have hC := implTm_any d _ t W (TmR.lasts d _ _ _ _ hr hA) hw
  rw [hW] at hC
  have HW : Hid (W = _) := hW
  have HB : Hid (Below w.heap.size w W) := hA
  obtain ⟨PP, hPP⟩ : ∃ P : Prop, RightT d t = P := ⟨_, rfl⟩
  show Calls Try.prog _ _ _ fun e w' => BRes (¬ RightT d t) w e w'
  rw [hPP] at hC ⊢
  clear hr hA hW hw hPP
  go_enter Try.func49, Try.ntmps49
  go_wp2_with fail
  refine hC.mono ?_
  clear hC
  rintro e V ⟨b, rfl, hb, hB⟩
  rw [← HW.out] at hB
  have HBV : Hid (Below w.heap.size w V) := HB.out.trans (hB.mono HB.out.size)
  have HF : Hid ((!b) = true ↔ ¬ PP) := by
    cases b
    · exact ⟨(fun _ h => by have := hb.2 h; cases this), fun _ => rfl⟩
    · exact ⟨(fun h => by cases h), fun h => absurd (hb.1 rfl) h⟩
  clear hb hB
  go_wp2_with fail
  go_ret
  exact ⟨_, rfl, HF.out, HBV.out⟩

def IxRes (P : Prop) (w : World) (e : Ending) (w' : World) : Prop := ∃ r : Int, e = .returned (.int .i64 r) ∧ (0 ≤ r ↔ P) ∧ I64 r ∧ Below w.heap.size w w'

set_option maxRecDepth 100000 in
set_option maxHeartbeats 2000000 in
theorem indexTm_any (d g : Nat) (P : Tm (d + 1) → Prop) (eg : ∀ args w, (callFunc g args).run Try.prog w = .ok (.enter g args) w) (H : ToldT d g P) (a : Option Addr) (len c : Nat) (m : List (Tm (d + 1))) (w : World) (hr : RdL (d + 1) w (.slice a len c) m) (hw : WfL (d + 1) m) (hl : m.length = len) (hl1 : len ≤ 1048576) :
    Calls Try.prog 53 #[.slice a len c, .func (.func g) #[] #[]] w fun e w' => IxRes (∃ (i : Nat) (t : Tm (d + 1)), m[i]? = some t ∧ P t) w e w' := by
  have HE : Hid (RdL (d + 1) w (.slice a len c) m) := hr
  have HL : Hid (m.length = len) := hl
  have HH : Hid (ToldT d g P) := H
  have HWF : Hid (WfL (d + 1) m) := hw
  obtain ⟨PP, hPP⟩ : ∃ Q : Prop, (∃ (i : Nat) (t : Tm (d + 1)), m[i]? = some t ∧ P t) = Q := ⟨_, rfl⟩
  have HPP : Hid ((∃ (i : Nat) (t : Tm (d + 1)), m[i]? = some t ∧ P t) = PP) := hPP
  rw [hPP]
  clear hr hl H hw hPP
  go_enter Try.func53, Try.ntmps53
  go_wp2_with fail
  go_loopw [5, 8] (fun _ i wr => ∃ k : Nat, k ≤ len ∧ i = .int .i64 k ∧ Hid (Below w.heap.size w wr) ∧ Hid (∀ (j : Nat) (g : Tm (d + 1)), j < k → m[j]? = some g → ¬ P g)) (fun _ i _ => len - (intOf i).toNat)
  case atStart => exact ⟨0, Nat.zero_le _, rfl, Below.refl _ _, fun j g hj => absurd hj (Nat.not_lt_zero _)⟩
  case round =>
    obtain ⟨k, hk, rfl, HB, HN⟩ := hrel
    by_cases hkl : k < len
    · obtain ⟨t, ht⟩ : ∃ t, m[k]? = some t := ⟨_, List.getElem?_eq_getElem (by have := HL.out; omega)⟩
      obtain ⟨b, o, la, ll, lc, rfl, f0, f1, f2, f3, hT⟩ := terms_at (HE.out.later HB.out) k t ht
      have hkl' : (k : Int) < (len : Int) := by omega
      have HT : Hid (m[k]? = some t) := ht
      have hC := HH.out _ t wr hT (wf_term HWF.out ht)
      clear ht hT
      by_cases hpt : P t
      · have HF : Hid PP := by rw [← HPP.out]; exact ⟨k, t, HT.out, hpt⟩
        have HPT : Hid (P t) := hpt
        clear HN hpt
        go_wp2_with (go_at_fn g; refine hC.mono ?_; rintro e w' ⟨b', rfl, hb', hB'⟩; obtain rfl : b' = true := hb'.2 HPT.out; have HB2 : Hid (Below w.heap.size w w') := HB.out.trans (hB'.mono HB.out.size))
        go_ret
        exact ⟨_, rfl, ⟨fun _ => HF.out, fun _ => by omega⟩, ⟨by omega, by omega⟩, by assumption⟩
      · have HF : Hid (∀ (j : Nat) (g : Tm (d + 1)), j < k + 1 → m[j]? = some g → ¬ P g) := fun j y hj hy => by
          rcases Nat.lt_or_ge j k with q | q
          · exact HN.out j y q hy
          · obtain rfl : j = k := by omega
            rw [HT.out] at hy
            cases hy
            exact hpt
        have HPT : Hid (¬ P t) := hpt
        clear HN hpt
        go_wp2_with (go_at_fn g; refine hC.mono ?_; rintro e w' ⟨b', rfl, hb', hB'⟩; obtain rfl : b' = false := (Bool.eq_false_iff.2 fun h => HPT.out (hb'.1 h)); have HB2 : Hid (Below w.heap.size w w') := HB.out.trans (hB'.mono HB.out.size))
        go_roundw
        case rel => exact ⟨k + 1, by omega, by go_num, by assumption, HF⟩
        case measure => simp [intOf]; omega
    · obtain rfl : k = len := by omega
      have hkl' : decide ((k : Int) < (k : Int)) = false := by simp
      have HF : Hid (¬ PP) := by rw [← HPP.out]; rintro ⟨i, t, hi, ht⟩; exact HN.out i t (by have := (List.getElem?_eq_some_iff.1 hi).1; have := HL.out; omega) hi ht
      clear HN
      go_wp2_with fail
      go_ret
      exact ⟨_, rfl, ⟨fun h => by omega, fun h => absurd h HF.out⟩, ⟨by omega, by omega⟩, HB.out⟩

set_option maxRecDepth 100000 in
set_option maxHeartbeats 2000000 in
theorem containsTm_any (d g : Nat) (P : Tm (d + 1) → Prop) (eg : ∀ args w, (callFunc g args).run Try.prog w = .ok (.enter g args) w) (H : ToldT d g P) (a : Option Addr) (len c : Nat) (m : List (Tm (d + 1))) (w : World) (hr : RdL (d + 1) w (.slice a len c) m) (hw : WfL (d + 1) m) (hl : m.length = len) (hl1 : len ≤ 1048576) :
    Calls Try.prog 40 #[.slice a len c, .func (.func g) #[] #[]] w fun e w' => BRes (∃ (i : Nat) (t : Tm (d + 1)), m[i]? = some t ∧ P t) w e w' := by
  have hC := indexTm_any d g P eg H a len c m w hr hw hl hl1
  obtain ⟨PP, hPP⟩ : ∃ Q : Prop, (∃ (i : Nat) (t : Tm (d + 1)), m[i]? = some t ∧ P t) = Q := ⟨_, rfl⟩
  rw [hPP] at hC ⊢
  clear hr hw hl H hPP eg
  go_enter Try.func40, Try.ntmps40
  go_wp2_with fail
  refine hC.mono ?_
  clear hC
  rintro e V ⟨r, rfl, hr, _, hB⟩
  have HF : Hid (decide (0 ≤ r) = true ↔ PP) := by show _ ↔ _; rw [decide_eq_true_iff]; exact hr
  clear hr
  go_wp2_with fail
  go_ret
  exact ⟨_, rfl, HF.out, hB⟩

set_option maxRecDepth 100000 in
set_option maxHeartbeats 2000000 in
theorem allRight_any (d : Nat) (a : Option Addr) (len c : Nat) (m : List (Tm (d + 1))) (w : World) (hr : RdL (d + 1) w (.slice a len c) m) (hw : WfL (d + 1) m) (hl : m.length = len) (hl1 : len ≤ 1048576) :
    Calls Try.prog 31 #[.slice a len c] w fun e w' => BRes (∀ (i : Nat) (t : Tm (d + 1)), m[i]? = some t → RightT d t) w e w' := by
  have hC := containsTm_any d 49 _ enters_right1 (allRight1_any d) a len c m w hr hw hl hl1
  obtain ⟨PP, hPP⟩ : ∃ Q : Prop, (∃ (i : Nat) (t : Tm (d + 1)), m[i]? = some t ∧ ¬ RightT d t) = Q := ⟨_, rfl⟩
  obtain ⟨QQ, hQQ⟩ : ∃ Q : Prop, (∀ (i : Nat) (t : Tm (d + 1)), m[i]? = some t → RightT d t) = Q := ⟨_, rfl⟩
  have HPQ : Hid (PP ↔ ¬ QQ) := by
    rw [← hPP, ← hQQ]
    constructor
    · rintro ⟨i, t, h1, h2⟩ h3; exact h2 (h3 i t h1)
    · intro h
      exact Classical.byContradiction fun h2 => h fun i t hi => Classical.byContradiction fun h3 => h2 ⟨i, t, hi, h3⟩
  rw [hPP] at hC
  rw [hQQ]
  have hmf : ∀ (fn : Fn) (first cap : Array Value) (w : World), (Instr.makeFunc fn first cap).run Try.prog w = .ok (.func fn first cap) w := fun _ _ _ _ => rfl
  clear hr hw hl hPP hQQ
  go_enter Try.func31, Try.ntmps31
  go_wp2_with fail
  refine hC.mono ?_
  clear hC
  rintro e V ⟨b, rfl, hb, hB⟩
  have HF : Hid ((!b) = true ↔ QQ) := by
    have := HPQ.out
    cases b
    · exact ⟨(fun _ => Classical.byContradiction fun h => by have := hb.2 (this.2 h); cases this), fun _ => rfl⟩
    · exact ⟨(fun h => by cases h), fun h => absurd h (this.1 (hb.1 rfl))⟩
  clear hb
  go_wp2_with fail
  go_ret
  exact ⟨_, rfl, HF.out, hB⟩

end Go.Proofs.Ytfachfimdenapaa
