/- How far a run of bytes goes, and what a name is: the program's and the model's. -/
import Derived.Test.YthjmbbpakidkdaaTk1
import Derived.Shelf.Abstract
namespace Go.Proofs.Ythjmbbpakidkdaa
open Go.RowKit
set_option linter.unusedVariables false

/-- The run of bytes of which p holds goes from place i to place k. -/
def RunTo (p : Int → Bool) (s : ByteArray) (i k : Nat) : Prop :=
  i ≤ k ∧ k ≤ s.size ∧ (∀ (j : Nat) (h : j < s.size), i ≤ j → j < k → p (s[j].toNat : Int) = true) ∧ (∀ h : k < s.size, p (s[k].toNat : Int) = false)

theorem RunTo.unique {p : Int → Bool} {s : ByteArray} {i k k' : Nat} (h : RunTo p s i k) (h' : RunTo p s i k') : k = k' := by
  obtain ⟨a1, a2, a3, a4⟩ := h
  obtain ⟨b1, b2, b3, b4⟩ := h'
  rcases Nat.lt_trichotomy k k' with h | h | h
  · have := a4 (by omega); rw [b3 k (by omega) a1 h] at this; cases this
  · exact h
  · have := b4 (by omega); rw [a3 k' (by omega) b1 h] at this; cases this

/-- What a test of a byte answers. -/
def ByteTold (g : Nat) (p : Int → Bool) : Prop := ∀ (x : Int) (w : World), 0 ≤ x → x ≤ 255 → Calls Try.prog g #[.int .u8 x] w fun e w' => e = .returned (.bool (p x)) ∧ w = w'

set_option maxHeartbeats 1000000 in
theorem runSize_any (g : Nat) (p : Int → Bool) (eg : ∀ args w, (callFunc g args).run Try.prog w = .ok (.enter g args) w) (H : ByteTold g p) (s : ByteArray) (w : World) (hs : s.size ≤ 9223372036854775807) :
    Calls Try.prog 158 #[.string s, .func (.func g) #[] #[]] w fun e w' => ∃ k : Nat, e = .returned (.int .i64 k) ∧ Hid (RunTo p s 0 k) ∧ w = w' := by
  have HH : Hid (ByteTold g p) := H
  clear H
  go_enter Try.func158, Try.ntmps158
  go_wp2_with fail
  go_loop [5] (fun i => ∃ k : Nat, k ≤ s.size ∧ i = .int .i64 k ∧ Hid (∀ (j : Nat) (h : j < s.size), j < k → p (s[j].toNat : Int) = true)) (fun i => s.size - (intOf i).toNat)
  case atStart => exact ⟨0, Nat.zero_le _, rfl, fun j _ hj => by omega⟩
  case round =>
    obtain ⟨k, hk, rfl, HD⟩ := hrel
    by_cases hlt : k < s.size
    · obtain ⟨x, hx⟩ : ∃ x, (s[k].toNat : Int) = x := ⟨_, rfl⟩
      have HX : Hid ((s[k].toNat : Int) = x) := hx
      have hx0 : 0 ≤ x := by omega
      have hx1 : x ≤ 255 := by have := s[k].toNat_lt; omega
      have hL := HH.out x w hx0 hx1
      cases hp : p x
      · rw [hp] at hL
        have HR : Hid (RunTo p s 0 k) := ⟨Nat.zero_le _, hk, fun j hj _ hjk => HD.out j hj hjk, fun h => by rw [HX.out]; exact hp⟩
        clear hp HD HH HX
        go_wp2_with (go_at_fn g; refine hL.mono ?_; rintro e w' ⟨rfl, rfl⟩)
        go_ret
        exact ⟨k, rfl, HR, rfl⟩
      · rw [hp] at hL
        have HR : Hid (∀ (j : Nat) (h : j < s.size), j < k + 1 → p (s[j].toNat : Int) = true) := fun j hj hjk => by
          by_cases h : j < k
          · exact HD.out j hj h
          · obtain rfl : j = k := by omega
            rw [HX.out]; exact hp
        clear hp HD HH HX
        go_wp2_with (go_at_fn g; refine hL.mono ?_; rintro e w' ⟨rfl, rfl⟩)
        go_round
        case rel => exact ⟨k + 1, by omega, by go_num, HR⟩
        case measure => simp [intOf]; omega
    · have hke : k = s.size := by omega
      have HR : Hid (RunTo p s 0 k) := ⟨Nat.zero_le _, hk, fun j hj _ hjk => HD.out j hj hjk, fun h => absurd h hlt⟩
      have hb : decide ((k : Int) < s.size) = false := by simp; omega
      clear HD HH hke
      go_wp2_with fail
      go_ret
      exact ⟨k, rfl, HR, rfl⟩

theorem enters_isDigit : ∀ args w, (callFunc 156 args).run Try.prog w = .ok (.enter 156 args) w := enters_of Try.func156 (by kernel_rfl) rfl
theorem enters_isAtomByte : ∀ args w, (callFunc 98 args).run Try.prog w = .ok (.enter 98 args) w := enters_of Try.func98 (by kernel_rfl) rfl
theorem enters_isNameByte : ∀ args w, (callFunc 159 args).run Try.prog w = .ok (.enter 159 args) w := enters_of Try.func159 (by kernel_rfl) rfl
theorem runDigits : ∀ (s : ByteArray) (w : World), s.size ≤ 9223372036854775807 → Calls Try.prog 158 #[.string s, .func (.func 156) #[] #[]] w fun e w' => ∃ k : Nat, e = .returned (.int .i64 k) ∧ Hid (RunTo dgB s 0 k) ∧ w = w' := runSize_any 156 dgB enters_isDigit (fun x w _ _ => isDigit_any x w)
theorem runAtom : ∀ (s : ByteArray) (w : World), s.size ≤ 9223372036854775807 → Calls Try.prog 158 #[.string s, .func (.func 98) #[] #[]] w fun e w' => ∃ k : Nat, e = .returned (.int .i64 k) ∧ Hid (RunTo atB s 0 k) ∧ w = w' := runSize_any 98 atB enters_isAtomByte (fun x w _ _ => isAtomByte_any x w)
theorem runName : ∀ (s : ByteArray) (w : World), s.size ≤ 9223372036854775807 → Calls Try.prog 158 #[.string s, .func (.func 159) #[] #[]] w fun e w' => ∃ k : Nat, e = .returned (.int .i64 k) ∧ Hid (RunTo nmB s 0 k) ∧ w = w' := runSize_any 159 nmB enters_isNameByte (fun x w _ _ => isNameByte_any x w)

/-- A byte that a name may have at place i. -/
def NmOk (i : Nat) (x : Int) : Prop := lgB x = true ∨ (i ≠ 0 ∧ (smB x = true ∨ dgB x = true))

/-- A name. -/
def NameP (s : ByteArray) : Prop := (∀ (i : Nat) (h : i < s.size), NmOk i (s[i].toNat : Int)) ∧ 1 ≤ s.size ∧ s.size ≤ 20

theorem nmB_iff (x : Int) : nmB x = true ↔ lgB x = true ∨ smB x = true ∨ dgB x = true := by
  simp only [nmB, atB, lgB, smB, dgB, Bool.or_eq_true, decide_eq_true_eq, beq_iff_eq]
  constructor <;> intro h <;> omega

theorem nameP_iff (s : ByteArray) (h0 : 0 < s.size) : NameP s ↔ s.size ≤ 20 ∧ lgB (s[0].toNat : Int) = true ∧ RunTo nmB s 0 s.size := by
  constructor
  · rintro ⟨h1, h2, h3⟩
    refine ⟨h3, ?_, Nat.zero_le _, Nat.le_refl _, fun j hj _ _ => ?_, fun h => absurd h (Nat.lt_irrefl _)⟩
    · rcases h1 0 h0 with h | h
      · exact h
      · exact absurd rfl h.1
    · rw [nmB_iff]
      rcases h1 j hj with h | h
      · exact .inl h
      · exact .inr h.2
  · rintro ⟨h1, h2, _, _, h3, _⟩
    refine ⟨fun i hi => ?_, h0, h1⟩
    by_cases hi0 : i = 0
    · subst hi0; exact .inl h2
    · rcases (nmB_iff _).1 (h3 i hi (Nat.zero_le _) hi) with h | h
      · exact .inl h
      · exact .inr ⟨hi0, h⟩

end Go.Proofs.Ythjmbbpakidkdaa
