/- The model's test of an expression's own fields. -/
import Derived.Test.YtfcdmmmihiojoaaFx
namespace Go.Proofs.Ytfcdmmmihiojoaa
open Go.RowKit
set_option linter.unusedVariables false

/-- As an expression, or as a pattern. -/
def ShX (pat : Bool) (k n : Int) (s : ByteArray) (e c : Nat) : Prop := Fit k n s e c ∧ (pat = true → k ≤ 6) ∧ (pat = false → k = 3 → ¬ s.toList = [95])

theorem l4Reserved_any (s : ByteArray) (w : World) : Calls Try.prog 22 #[.string s] w fun e w' => ∃ b : Bool, e = .returned (.bool b) ∧ Hid (b = true ↔ Wrd s) ∧ w = w' := by
  obtain ⟨x1, e1⟩ : ∃ x, (s.toList == [99, 97, 115, 101]) = x := ⟨_, rfl⟩
  obtain ⟨x2, e2⟩ : ∃ x, (s.toList == [111, 102]) = x := ⟨_, rfl⟩
  obtain ⟨x3, e3⟩ : ∃ x, (s.toList == [101, 110, 100]) = x := ⟨_, rfl⟩
  have HB : Hid ((x1 || x2 || x3) = true ↔ Wrd s) := by
    subst e1 e2 e3
    unfold Wrd
    show _ ↔ _
    simp [or_assoc]
  go_enter Try.func22, Try.ntmps22
  cases x1
  · cases x2
    · cases x3
      · go_wp2_with fail
        go_ret
        exact ⟨false, rfl, HB, rfl⟩
      · go_wp2_with fail
        go_ret
        exact ⟨true, rfl, HB, rfl⟩
    · go_wp2_with fail
      go_ret
      exact ⟨true, rfl, HB, rfl⟩
  · go_wp2_with fail
    go_ret
    exact ⟨true, rfl, HB, rfl⟩

theorem l4Atom_any (s : ByteArray) (w : World) (hs : s.size ≤ 9223372036854775807) : Calls Try.prog 19 #[.string s] w fun e w' => ∃ b : Bool, e = .returned (.bool b) ∧ Hid (b = true ↔ AtomP s ∧ ¬ Wrd s) ∧ Below w.heap.size w w' := by
  have hA := specAtomOk_any s w hs
  have HRV : Hid (∀ V : World, _) := fun V => l4Reserved_any s V
  go_enter Try.func19, Try.ntmps19
  go_wp2_with fail
  refine hA.mono ?_
  clear hA
  rintro e w1 ⟨b, rfl, hb, hw1⟩
  have HW1 : Hid (Below w.heap.size w w1) := (by rw [← hw1]; exact Below.refl _ _)
  have HB : Hid (b = true ↔ AtomP s) := hb
  clear hb hw1
  cases b
  · have HN : Hid (¬ (AtomP s ∧ ¬ Wrd s)) := fun h => by have := HB.out.2 h.1; cases this
    go_wp2_with fail
    go_ret
    exact ⟨false, rfl, iff_no HN.out, HW1.out⟩
  · go_wp2_with fail
    refine (HRV.out _).mono ?_
    rintro e w2 ⟨b2, rfl, hb2, rfl⟩
    cases b2
    · have HY : Hid (AtomP s ∧ ¬ Wrd s) := ⟨HB.out.1 (by simp), fun h => by have := hb2.out.2 h; cases this⟩
      go_wp2_with fail
      go_ret
      exact ⟨true, rfl, iff_yes HY.out, HW1.out⟩
    · have HN : Hid (¬ (AtomP s ∧ ¬ Wrd s)) := fun h => h.2 (hb2.out.1 (by simp))
      go_wp2_with fail
      go_ret
      exact ⟨false, rfl, iff_no HN.out, HW1.out⟩

end Go.Proofs.Ytfcdmmmihiojoaa
