/- An atom as an expression: what the program tells of it. -/
import Derived.Test.YtfcdmmmihiojoaaIFit
namespace Go.Proofs.Ytfcdmmmihiojoaa
open Go.RowKit
set_option linter.unusedVariables false

/-- One of the three words. -/
def Wrd (s : ByteArray) : Prop := s.toList = [99, 97, 115, 101] ∨ s.toList = [111, 102] ∨ s.toList = [101, 110, 100]

theorem wrd_iff {s : ByteArray} {b x1 x2 x3 : Bool} (h1 : (s.toList == [99, 97, 115, 101]) = x1) (h2 : (s.toList == [111, 102]) = x2) (h3 : (s.toList == [101, 110, 100]) = x3) (hb : b = true ↔ AtomP s) :
    ((b && !x1 && !x2 && !x3) = true ↔ AtomP s ∧ ¬ Wrd s) := by
  subst h1 h2 h3
  unfold Wrd
  rw [← hb]
  simp [and_assoc]

theorem exprAtomOk_any (s : ByteArray) (w : World) (hs : s.size ≤ 9223372036854775807) :
    Calls Try.prog 20 #[.string s] w fun e w' => ∃ b : Bool, e = .returned (.bool b) ∧ (b = true ↔ AtomP s ∧ ¬ Wrd s) ∧ w = w' := by
  have hA := atomOk_any s w hs
  obtain ⟨x1, e1⟩ : ∃ x, (s.toList == [99, 97, 115, 101]) = x := ⟨_, rfl⟩
  obtain ⟨x2, e2⟩ : ∃ x, (s.toList == [111, 102]) = x := ⟨_, rfl⟩
  obtain ⟨x3, e3⟩ : ∃ x, (s.toList == [101, 110, 100]) = x := ⟨_, rfl⟩
  have HE : Hid (∀ b : Bool, (b = true ↔ AtomP s) → ((b && !x1 && !x2 && !x3) = true ↔ AtomP s ∧ ¬ Wrd s)) := fun b hb => wrd_iff e1 e2 e3 hb
  go_enter Try.func20, Try.ntmps20
  go_wp2_with fail
  refine hA.mono ?_
  clear hA
  rintro e w' ⟨b, rfl, hb, rfl⟩
  have HB := HE.out b hb
  clear hb HE hs
  cases b
  · go_wp2_with fail
    go_ret
    exact ⟨false, rfl, HB, rfl⟩
  · cases x1
    · cases x2
      · cases x3
        · go_wp2_with fail
          go_ret
          exact ⟨true, rfl, HB, rfl⟩
        · go_wp2_with fail
          go_ret
          exact ⟨false, rfl, HB, rfl⟩
      · go_wp2_with fail
        go_ret
        exact ⟨false, rfl, HB, rfl⟩
    · go_wp2_with fail
      go_ret
      exact ⟨false, rfl, HB, rfl⟩

end Go.Proofs.Ytfcdmmmihiojoaa
