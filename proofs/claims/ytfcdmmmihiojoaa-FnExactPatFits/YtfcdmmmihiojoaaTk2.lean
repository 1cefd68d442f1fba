/- How far a run of bytes goes, and what a name is: the program's and the model's. -/
import Derived.Test.YtfcdmmmihiojoaaTk1
import Derived.Shelf.Abstract
namespace Go.Proofs.Ytfcdmmmihiojoaa
open Go.RowKit
set_option linter.unusedVariables false

/-- The run of bytes of which p holds goes from place i to place k. -/
def RunTo (p : Int → Bool) (s : ByteArray) (i k : Nat) : Prop :=
  i ≤ k ∧ k ≤ s.size ∧ (∀ (j : Nat) (h : j < s.size), i ≤ j → j < k → p (s[j].toNat : Int) = true) ∧ (∀ h : k < s.size, p (s[k].toNat : Int) = false)

theorem RunTo.unique {p : Int → Bool} {s : ByteArray} {i k k' : Nat} (h : RunTo p s i k) (h' : RunTo p s i k') : k = k' := by
  obtain ⟨a1, a2, a3, a4⟩ := h
  obtain ⟨b1, b2, b3, b4⟩ := h'
  rcases Nat.lt_trichotomy k k' with h | h | h
  · have := a4 (by omega); rw [b3 k (by omega) a1 h] at this; cases this
  · exact h
  · have := b4 (by omega); rw [a3 k' (by omega) b1 h] at this; cases this

/-- What a test of a byte answers. -/
def ByteTold (g : Nat) (p : Int → Bool) : Prop := ∀ (x : Int) (w : World), 0 ≤ x → x ≤ 255 → Calls Try.prog g #[.int .u8 x] w fun e w' => e = .returned (.bool (p x)) ∧ w = w'

theorem enters_isDigit : ∀ args w, (callFunc 26 args).run Try.prog w = .ok (.enter 26 args) w := enters_of Try.func26 (by kernel_rfl) rfl
theorem enters_isAtomByte : ∀ args w, (callFunc 25 args).run Try.prog w = .ok (.enter 25 args) w := enters_of Try.func25 (by kernel_rfl) rfl
/-- A byte that a name may have at place i. -/
def NmOk (i : Nat) (x : Int) : Prop := lgB x = true ∨ (i ≠ 0 ∧ (smB x = true ∨ dgB x = true))

/-- A name. -/
def NameP (s : ByteArray) : Prop := (∀ (i : Nat) (h : i < s.size), NmOk i (s[i].toNat : Int)) ∧ 1 ≤ s.size ∧ s.size ≤ 20

theorem nmB_iff (x : Int) : nmB x = true ↔ lgB x = true ∨ smB x = true ∨ dgB x = true := by
  simp only [nmB, atB, lgB, smB, dgB, Bool.or_eq_true, decide_eq_true_eq, beq_iff_eq]
  constructor <;> intro h <;> omega

theorem nameP_iff (s : ByteArray) (h0 : 0 < s.size) : NameP s ↔ s.size ≤ 20 ∧ lgB (s[0].toNat : Int) = true ∧ RunTo nmB s 0 s.size := by
  constructor
  · rintro ⟨h1, h2, h3⟩
    refine ⟨h3, ?_, Nat.zero_le _, Nat.le_refl _, fun j hj _ _ => ?_, fun h => absurd h (Nat.lt_irrefl _)⟩
    · rcases h1 0 h0 with h | h
      · exact h
      · exact absurd rfl h.1
    · rw [nmB_iff]
      rcases h1 j hj with h | h
      · exact .inl h
      · exact .inr h.2
  · rintro ⟨h1, h2, _, _, h3, _⟩
    refine ⟨fun i hi => ?_, h0, h1⟩
    by_cases hi0 : i = 0
    · subst hi0; exact .inl h2
    · rcases (nmB_iff _).1 (h3 i hi (Nat.zero_le _) hi) with h | h
      · exact .inl h
      · exact .inr ⟨hi0, h⟩

end Go.Proofs.Ytfcdmmmihiojoaa
