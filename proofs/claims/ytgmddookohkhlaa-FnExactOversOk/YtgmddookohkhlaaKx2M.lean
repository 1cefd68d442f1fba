/- slices.IndexFunc and ContainsFunc at rows of Over. -/
import Derived.Test.YtgmddookohkhlaaDtOverM
import Derived.Test.YtgmddookohkhlaaVp0M
namespace Go.Proofs.Ytgmddookohkhlaa
open Go.RowKit
set_option linter.unusedVariables false

/-- A function value that tells whether P holds. -/
def ToldOver (d : Nat) (g : Nat) (P : DOver d → Prop) : Prop := ∀ (vs : List Value) (t : DOver d) (w : World), (OverR d) w vs t → (fun o : DOver d => WfOver d o ∧ szOverD d o ≤ 1048576) t → Calls Try.prog g #[.agg vs.toArray] w fun e w' => BRes (P t) w e w'

set_option maxRecDepth 100000 in
set_option maxHeartbeats 2000000 in
theorem indexOver_any (d : Nat) (g : Nat) (P : DOver d → Prop) (eg : ∀ args w, (callFunc g args).run Try.prog w = .ok (.enter g args) w) (H : ToldOver d g P) (a : Option Addr) (len c : Nat) (m : List (DOver d)) (w : World) (hr : RowOf 7 (OverR d) w (.slice a len c) m) (hw : WfRow (fun o : DOver d => WfOver d o ∧ szOverD d o ≤ 1048576) m) (hl : m.length = len) (hl1 : len ≤ 1048576) :
    Calls Try.prog 63 #[.slice a len c, .func (.func g) #[] #[]] w fun e w' => IxRes (∃ (i : Nat) (t : DOver d), m[i]? = some t ∧ P t) w e w' := by
  have HE : Hid (RowOf 7 (OverR d) w (.slice a len c) m) := hr
  have HL : Hid (m.length = len) := hl
  have HH : Hid (ToldOver d g P) := H
  have HWF : Hid (WfRow (fun o : DOver d => WfOver d o ∧ szOverD d o ≤ 1048576) m) := hw
  obtain ⟨PP, hPP⟩ : ∃ Q : Prop, (∃ (i : Nat) (t : DOver d), m[i]? = some t ∧ P t) = Q := ⟨_, rfl⟩
  have HPP : Hid ((∃ (i : Nat) (t : DOver d), m[i]? = some t ∧ P t) = PP) := hPP
  rw [hPP]
  clear hr hl H hw hPP
  go_enter Try.func63, Try.ntmps63
  go_wp2_with fail
  go_loopw [5, 8] (fun _ i wr => ∃ k : Nat, k ≤ len ∧ i = .int .i64 k ∧ Hid (Below w.heap.size w wr) ∧ Hid (∀ (j : Nat) (g : DOver d), j < k → m[j]? = some g → ¬ P g)) (fun _ i _ => len - (intOf i).toNat)
  case atStart => exact ⟨0, Nat.zero_le _, rfl, Below.refl _ _, fun j g hj => absurd hj (Nat.not_lt_zero _)⟩
  case round =>
    obtain ⟨k, hk, rfl, HB, HN⟩ := hrel
    by_cases hkl : k < len
    · obtain ⟨t, ht⟩ : ∃ t, m[k]? = some t := ⟨_, List.getElem?_eq_getElem (by have := HL.out; omega)⟩
      obtain ⟨b, o, a3, c3, a4, c4, a5, c5, rfl, f0, f1, f2, f3, f4, f5, f6, h3, h4, h5⟩ := Over_at (HE.out.later (OverR.lasts d) HB.out) k t ht
      have hkl' : (k : Int) < (len : Int) := by omega
      have HT : Hid (m[k]? = some t) := ht
      have hC := HH.out _ t wr (⟨_, _, _, rfl, h3, h4, h5⟩) (HWF.out.2 t (List.mem_of_getElem? ht))
      clear ht
      by_cases hpt : P t
      · have HF : Hid PP := by rw [← HPP.out]; exact ⟨k, t, HT.out, hpt⟩
        have HPT : Hid (P t) := hpt
        clear HN hpt
        go_wp2_with (go_at_fn g; refine hC.mono ?_; rintro e w' ⟨b', rfl, hb', hB'⟩; obtain rfl : b' = true := hb'.2 HPT.out; have HB2 : Hid (Below w.heap.size w w') := HB.out.trans (hB'.mono HB.out.size))
        go_ret
        exact ⟨_, rfl, ⟨fun _ => HF.out, fun _ => by omega⟩, ⟨by omega, by omega⟩, by assumption⟩
      · have HF : Hid (∀ (j : Nat) (g : DOver d), j < k + 1 → m[j]? = some g → ¬ P g) := fun j y hj hy => by
          rcases Nat.lt_or_ge j k with q | q
          · exact HN.out j y q hy
          · obtain rfl : j = k := by omega
            rw [HT.out] at hy
            cases hy
            exact hpt
        have HPT : Hid (¬ P t) := hpt
        clear HN hpt
        go_wp2_with (go_at_fn g; refine hC.mono ?_; rintro e w' ⟨b', rfl, hb', hB'⟩; obtain rfl : b' = false := (Bool.eq_false_iff.2 fun h => HPT.out (hb'.1 h)); have HB2 : Hid (Below w.heap.size w w') := HB.out.trans (hB'.mono HB.out.size))
        go_roundw
        case rel => exact ⟨k + 1, by omega, by go_num, by assumption, HF⟩
        case measure => simp [intOf]; omega
    · obtain rfl : k = len := by omega
      have hkl' : decide ((k : Int) < (k : Int)) = false := by simp
      have HF : Hid (¬ PP) := by rw [← HPP.out]; rintro ⟨i, t, hi, ht⟩; exact HN.out i t (by have := (List.getElem?_eq_some_iff.1 hi).1; have := HL.out; omega) hi ht
      clear HN
      go_wp2_with fail
      go_ret
      exact ⟨_, rfl, ⟨fun h => by omega, fun h => absurd h HF.out⟩, ⟨by omega, by omega⟩, HB.out⟩

set_option maxRecDepth 100000 in
set_option maxHeartbeats 2000000 in
theorem containsOver_any (d : Nat) (g : Nat) (P : DOver d → Prop) (eg : ∀ args w, (callFunc g args).run Try.prog w = .ok (.enter g args) w) (H : ToldOver d g P) (a : Option Addr) (len c : Nat) (m : List (DOver d)) (w : World) (hr : RowOf 7 (OverR d) w (.slice a len c) m) (hw : WfRow (fun o : DOver d => WfOver d o ∧ szOverD d o ≤ 1048576) m) (hl : m.length = len) (hl1 : len ≤ 1048576) :
    Calls Try.prog 39 #[.slice a len c, .func (.func g) #[] #[]] w fun e w' => BRes (∃ (i : Nat) (t : DOver d), m[i]? = some t ∧ P t) w e w' := by
  have hC := indexOver_any d g P eg H a len c m w hr hw hl hl1
  obtain ⟨PP, hPP⟩ : ∃ Q : Prop, (∃ (i : Nat) (t : DOver d), m[i]? = some t ∧ P t) = Q := ⟨_, rfl⟩
  rw [hPP] at hC ⊢
  clear hr hw hl H hPP eg
  go_enter Try.func39, Try.ntmps39
  go_wp2_with fail
  refine hC.mono ?_
  clear hC
  rintro e V ⟨r, rfl, hr, _, hB⟩
  have HF : Hid (decide (0 ≤ r) = true ↔ PP) := by show _ ↔ _; rw [decide_eq_true_iff]; exact hr
  clear hr
  go_wp2_with fail
  go_ret
  exact ⟨_, rfl, HF.out, hB⟩

end Go.Proofs.Ytgmddookohkhlaa
