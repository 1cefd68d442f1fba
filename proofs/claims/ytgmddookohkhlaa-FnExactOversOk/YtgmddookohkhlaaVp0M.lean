/- Terms of a list that are all right: the program's. -/
import Derived.Test.YtgmddookohkhlaaDt0M
import Derived.Test.YtgmddookohkhlaaIOkM
import Derived.Shelf.Abstract
namespace Go.Proofs.Ytgmddookohkhlaa
open Go.RowKit
set_option linter.unusedVariables false

theorem implTm_any (d : Nat) (vs : List Value) (t : Tm (d + 1)) (w : World) (hr : TmR d w vs t) (hw : WfTm d t) :
    Calls Try.prog 81 #[.agg vs.toArray] w fun e w' => BRes (RightT d t) w e w' := by
  obtain ⟨lv, rfl, h⟩ := hr
  exact termOk_any d t.K t.N t.S lv t.L w h hw.2.2.2 (len_max hw.2.2.1)

/-- A function value that tells whether P holds of a term. -/
def ToldT (d g : Nat) (P : Tm (d + 1) → Prop) : Prop := ∀ (vs : List Value) (t : Tm (d + 1)) (w : World), TmR d w vs t → WfTm d t → Calls Try.prog g #[.agg vs.toArray] w fun e w' => BRes (P t) w e w'

def IxRes (P : Prop) (w : World) (e : Ending) (w' : World) : Prop := ∃ r : Int, e = .returned (.int .i64 r) ∧ (0 ≤ r ↔ P) ∧ I64 r ∧ Below w.heap.size w w'

end Go.Proofs.Ytgmddookohkhlaa

/- slices.IndexFunc and ContainsFunc at rows of Kid, int. -/
namespace Go.Proofs.Ytgmddookohkhlaa
open Go.RowKit
set_option linter.unusedVariables false

theorem int_at {w : World} {a : Option Addr} {n c : Nat} {l : List Int} (h : RowOf 1 InR w (.slice a n c) l) (i : Nat) (x : Int) (hx : l[i]? = some x) : ∃ b o, a = some ⟨b, o, none⟩ ∧ w.cell? ⟨b, o + i, none⟩ = some (.int .i64 x) := by
  obtain ⟨a', c', e, h1⟩ := row_tellI h
  cases e
  exact h1 i x hx

/-- A function value that tells whether P holds. -/
def ToldKid (d : Nat) (g : Nat) (P : DKid d → Prop) : Prop := ∀ (vs : List Value) (t : DKid d) (w : World), (KidR d) w vs t → (WfKid d) t → Calls Try.prog g #[.agg vs.toArray] w fun e w' => BRes (P t) w e w'

set_option maxRecDepth 100000 in
set_option maxHeartbeats 2000000 in
theorem indexKid_any (d : Nat) (g : Nat) (P : DKid d → Prop) (eg : ∀ args w, (callFunc g args).run Try.prog w = .ok (.enter g args) w) (H : ToldKid d g P) (a : Option Addr) (len c : Nat) (m : List (DKid d)) (w : World) (hr : RowOf 7 (KidR d) w (.slice a len c) m) (hw : WfRow (WfKid d) m) (hl : m.length = len) (hl1 : len ≤ 1048576) :
    Calls Try.prog 79 #[.slice a len c, .func (.func g) #[] #[]] w fun e w' => IxRes (∃ (i : Nat) (t : DKid d), m[i]? = some t ∧ P t) w e w' := by
  have HE : Hid (RowOf 7 (KidR d) w (.slice a len c) m) := hr
  have HL : Hid (m.length = len) := hl
  have HH : Hid (ToldKid d g P) := H
  have HWF : Hid (WfRow (WfKid d) m) := hw
  obtain ⟨PP, hPP⟩ : ∃ Q : Prop, (∃ (i : Nat) (t : DKid d), m[i]? = some t ∧ P t) = Q := ⟨_, rfl⟩
  have HPP : Hid ((∃ (i : Nat) (t : DKid d), m[i]? = some t ∧ P t) = PP) := hPP
  rw [hPP]
  clear hr hl H hw hPP
  go_enter Try.func79, Try.ntmps79
  go_wp2_with fail
  go_loopw [5, 8] (fun _ i wr => ∃ k : Nat, k ≤ len ∧ i = .int .i64 k ∧ Hid (Below w.heap.size w wr) ∧ Hid (∀ (j : Nat) (g : DKid d), j < k → m[j]? = some g → ¬ P g)) (fun _ i _ => len - (intOf i).toNat)
  case atStart => exact ⟨0, Nat.zero_le _, rfl, Below.refl _ _, fun j g hj => absurd hj (Nat.not_lt_zero _)⟩
  case round =>
    obtain ⟨k, hk, rfl, HB, HN⟩ := hrel
    by_cases hkl : k < len
    · obtain ⟨t, ht⟩ : ∃ t, m[k]? = some t := ⟨_, List.getElem?_eq_getElem (by have := HL.out; omega)⟩
      obtain ⟨b, o, i2, i3, s4, a5, l5, c5, rfl, f0, f1, f2, f3, f4, f5, f6, hT⟩ := Kid_at (HE.out.later (KidR.lasts d) HB.out) k t ht
      have hkl' : (k : Int) < (len : Int) := by omega
      have HT : Hid (m[k]? = some t) := ht
      have hC := HH.out _ t wr (⟨_, _, _, _, rfl, hT⟩) (HWF.out.2 t (List.mem_of_getElem? ht))
      clear ht
      by_cases hpt : P t
      · have HF : Hid PP := by rw [← HPP.out]; exact ⟨k, t, HT.out, hpt⟩
        have HPT : Hid (P t) := hpt
        clear HN hpt
        go_wp2_with (go_at_fn g; refine hC.mono ?_; rintro e w' ⟨b', rfl, hb', hB'⟩; obtain rfl : b' = true := hb'.2 HPT.out; have HB2 : Hid (Below w.heap.size w w') := HB.out.trans (hB'.mono HB.out.size))
        go_ret
        exact ⟨_, rfl, ⟨fun _ => HF.out, fun _ => by omega⟩, ⟨by omega, by omega⟩, by assumption⟩
      · have HF : Hid (∀ (j : Nat) (g : DKid d), j < k + 1 → m[j]? = some g → ¬ P g) := fun j y hj hy => by
          rcases Nat.lt_or_ge j k with q | q
          · exact HN.out j y q hy
          · obtain rfl : j = k := by omega
            rw [HT.out] at hy
            cases hy
            exact hpt
        have HPT : Hid (¬ P t) := hpt
        clear HN hpt
        go_wp2_with (go_at_fn g; refine hC.mono ?_; rintro e w' ⟨b', rfl, hb', hB'⟩; obtain rfl : b' = false := (Bool.eq_false_iff.2 fun h => HPT.out (hb'.1 h)); have HB2 : Hid (Below w.heap.size w w') := HB.out.trans (hB'.mono HB.out.size))
        go_roundw
        case rel => exact ⟨k + 1, by omega, by go_num, by assumption, HF⟩
        case measure => simp [intOf]; omega
    · obtain rfl : k = len := by omega
      have hkl' : decide ((k : Int) < (k : Int)) = false := by simp
      have HF : Hid (¬ PP) := by rw [← HPP.out]; rintro ⟨i, t, hi, ht⟩; exact HN.out i t (by have := (List.getElem?_eq_some_iff.1 hi).1; have := HL.out; omega) hi ht
      clear HN
      go_wp2_with fail
      go_ret
      exact ⟨_, rfl, ⟨fun h => by omega, fun h => absurd h HF.out⟩, ⟨by omega, by omega⟩, HB.out⟩

set_option maxRecDepth 100000 in
set_option maxHeartbeats 2000000 in
theorem containsKid_any (d : Nat) (g : Nat) (P : DKid d → Prop) (eg : ∀ args w, (callFunc g args).run Try.prog w = .ok (.enter g args) w) (H : ToldKid d g P) (a : Option Addr) (len c : Nat) (m : List (DKid d)) (w : World) (hr : RowOf 7 (KidR d) w (.slice a len c) m) (hw : WfRow (WfKid d) m) (hl : m.length = len) (hl1 : len ≤ 1048576) :
    Calls Try.prog 56 #[.slice a len c, .func (.func g) #[] #[]] w fun e w' => BRes (∃ (i : Nat) (t : DKid d), m[i]? = some t ∧ P t) w e w' := by
  have hC := indexKid_any d g P eg H a len c m w hr hw hl hl1
  obtain ⟨PP, hPP⟩ : ∃ Q : Prop, (∃ (i : Nat) (t : DKid d), m[i]? = some t ∧ P t) = Q := ⟨_, rfl⟩
  rw [hPP] at hC ⊢
  clear hr hw hl H hPP eg
  go_enter Try.func56, Try.ntmps56
  go_wp2_with fail
  refine hC.mono ?_
  clear hC
  rintro e V ⟨r, rfl, hr, _, hB⟩
  have HF : Hid (decide (0 ≤ r) = true ↔ PP) := by show _ ↔ _; rw [decide_eq_true_iff]; exact hr
  clear hr
  go_wp2_with fail
  go_ret
  exact ⟨_, rfl, HF.out, hB⟩

/-- A function value that tells whether P holds. -/
def Toldint (g : Nat) (P : Int → Prop) : Prop := ∀ (t : Int) (w : World), I64 t → Calls Try.prog g #[.int .i64 t] w fun e w' => BRes (P t) w e w'

set_option maxRecDepth 100000 in
set_option maxHeartbeats 2000000 in
theorem indexint_any (g : Nat) (P : Int → Prop) (eg : ∀ args w, (callFunc g args).run Try.prog w = .ok (.enter g args) w) (H : Toldint g P) (a : Option Addr) (len c : Nat) (m : List (Int)) (w : World) (hr : RowOf 1 InR w (.slice a len c) m) (hw : WfRow I64 m) (hl : m.length = len) (hl1 : len ≤ 1048576) :
    Calls Try.prog 83 #[.slice a len c, .func (.func g) #[] #[]] w fun e w' => IxRes (∃ (i : Nat) (t : Int), m[i]? = some t ∧ P t) w e w' := by
  have HE : Hid (RowOf 1 InR w (.slice a len c) m) := hr
  have HL : Hid (m.length = len) := hl
  have HH : Hid (Toldint g P) := H
  have HWF : Hid (WfRow I64 m) := hw
  obtain ⟨PP, hPP⟩ : ∃ Q : Prop, (∃ (i : Nat) (t : Int), m[i]? = some t ∧ P t) = Q := ⟨_, rfl⟩
  have HPP : Hid ((∃ (i : Nat) (t : Int), m[i]? = some t ∧ P t) = PP) := hPP
  rw [hPP]
  clear hr hl H hw hPP
  go_enter Try.func83, Try.ntmps83
  go_wp2_with fail
  go_loopw [5, 8] (fun _ i wr => ∃ k : Nat, k ≤ len ∧ i = .int .i64 k ∧ Hid (Below w.heap.size w wr) ∧ Hid (∀ (j : Nat) (g : Int), j < k → m[j]? = some g → ¬ P g)) (fun _ i _ => len - (intOf i).toNat)
  case atStart => exact ⟨0, Nat.zero_le _, rfl, Below.refl _ _, fun j g hj => absurd hj (Nat.not_lt_zero _)⟩
  case round =>
    obtain ⟨k, hk, rfl, HB, HN⟩ := hrel
    by_cases hkl : k < len
    · obtain ⟨t, ht⟩ : ∃ t, m[k]? = some t := ⟨_, List.getElem?_eq_getElem (by have := HL.out; omega)⟩
      obtain ⟨b, o, rfl, f0⟩ := int_at (HE.out.later InR.lasts HB.out) k t ht
      have hkl' : (k : Int) < (len : Int) := by omega
      have HT : Hid (m[k]? = some t) := ht
      have hC := HH.out t wr (HWF.out.2 t (List.mem_of_getElem? ht))
      clear ht
      by_cases hpt : P t
      · have HF : Hid PP := by rw [← HPP.out]; exact ⟨k, t, HT.out, hpt⟩
        have HPT : Hid (P t) := hpt
        clear HN hpt
        go_wp2_with (go_at_fn g; refine hC.mono ?_; rintro e w' ⟨b', rfl, hb', hB'⟩; obtain rfl : b' = true := hb'.2 HPT.out; have HB2 : Hid (Below w.heap.size w w') := HB.out.trans (hB'.mono HB.out.size))
        go_ret
        exact ⟨_, rfl, ⟨fun _ => HF.out, fun _ => by omega⟩, ⟨by omega, by omega⟩, by assumption⟩
      · have HF : Hid (∀ (j : Nat) (g : Int), j < k + 1 → m[j]? = some g → ¬ P g) := fun j y hj hy => by
          rcases Nat.lt_or_ge j k with q | q
          · exact HN.out j y q hy
          · obtain rfl : j = k := by omega
            rw [HT.out] at hy
            cases hy
            exact hpt
        have HPT : Hid (¬ P t) := hpt
        clear HN hpt
        go_wp2_with (go_at_fn g; refine hC.mono ?_; rintro e w' ⟨b', rfl, hb', hB'⟩; obtain rfl : b' = false := (Bool.eq_false_iff.2 fun h => HPT.out (hb'.1 h)); have HB2 : Hid (Below w.heap.size w w') := HB.out.trans (hB'.mono HB.out.size))
        go_roundw
        case rel => exact ⟨k + 1, by omega, by go_num, by assumption, HF⟩
        case measure => simp [intOf]; omega
    · obtain rfl : k = len := by omega
      have hkl' : decide ((k : Int) < (k : Int)) = false := by simp
      have HF : Hid (¬ PP) := by rw [← HPP.out]; rintro ⟨i, t, hi, ht⟩; exact HN.out i t (by have := (List.getElem?_eq_some_iff.1 hi).1; have := HL.out; omega) hi ht
      clear HN
      go_wp2_with fail
      go_ret
      exact ⟨_, rfl, ⟨fun h => by omega, fun h => absurd h HF.out⟩, ⟨by omega, by omega⟩, HB.out⟩

set_option maxRecDepth 100000 in
set_option maxHeartbeats 2000000 in
theorem containsint_any (g : Nat) (P : Int → Prop) (eg : ∀ args w, (callFunc g args).run Try.prog w = .ok (.enter g args) w) (H : Toldint g P) (a : Option Addr) (len c : Nat) (m : List (Int)) (w : World) (hr : RowOf 1 InR w (.slice a len c) m) (hw : WfRow I64 m) (hl : m.length = len) (hl1 : len ≤ 1048576) :
    Calls Try.prog 58 #[.slice a len c, .func (.func g) #[] #[]] w fun e w' => BRes (∃ (i : Nat) (t : Int), m[i]? = some t ∧ P t) w e w' := by
  have hC := indexint_any g P eg H a len c m w hr hw hl hl1
  obtain ⟨PP, hPP⟩ : ∃ Q : Prop, (∃ (i : Nat) (t : Int), m[i]? = some t ∧ P t) = Q := ⟨_, rfl⟩
  rw [hPP] at hC ⊢
  clear hr hw hl H hPP eg
  go_enter Try.func58, Try.ntmps58
  go_wp2_with fail
  refine hC.mono ?_
  clear hC
  rintro e V ⟨r, rfl, hr, _, hB⟩
  have HF : Hid (decide (0 ≤ r) = true ↔ PP) := by show _ ↔ _; rw [decide_eq_true_iff]; exact hr
  clear hr
  go_wp2_with fail
  go_ret
  exact ⟨_, rfl, HF.out, hB⟩

end Go.Proofs.Ytgmddookohkhlaa
