/- What an expression's own fields must be. -/
import Derived.Test.YtfachfimdenapaaDoorTmM
import Derived.Test.YtfachfimdenapaaDoorIOkM
import Derived.Test.YtfachfimdenapaaDoorSVarsM
namespace Go.Proofs.YtfachfimdenapaaDoor
open Go.RowKit
set_option linter.unusedVariables false

def OpP (s : ByteArray) : Prop := s.toList = [43] ∨ s.toList = [45] ∨ s.toList = [42] ∨ s.toList = [61, 61] ∨ s.toList = [60]

/-- What goes for each kind. -/
def FitK (k n : Int) (s : ByteArray) (e c : Nat) : Prop :=
  (k = 1 ∧ 0 ≤ n ∧ n ≤ 1000000000000 ∧ s.size = 0 ∧ e = 0) ∨ (k = 2 ∧ (AtomP s ∧ ¬ Wrd s) ∧ e = 0) ∨ (k = 3 ∧ NameP s ∧ e = 0) ∨ ((k = 4 ∨ k = 5) ∧ s.size = 0 ∧ e ≤ 20) ∨ (k = 6 ∧ s.size = 0 ∧ 2 ≤ e ∧ e ≤ 6) ∨ (k = 7 ∧ OpP s ∧ e = 2) ∨ (k = 8 ∧ (AtomP s ∧ ¬ Wrd s) ∧ e ≤ 4) ∨ (k = 9 ∧ s.size = 0 ∧ e = 1 ∧ 1 ≤ c ∧ c ≤ 6)

/-- The fields fit. -/
def Fit (k n : Int) (s : ByteArray) (e c : Nat) : Prop := (k = 1 ∨ n = 0) ∧ (k = 9 ∨ c = 0) ∧ FitK k n s e c

theorem opOk_any (s : ByteArray) (w : World) : Calls Tryd.prog 77 #[.string s] w fun e w' => ∃ b : Bool, e = .returned (.bool b) ∧ (b = true ↔ OpP s) ∧ w = w' := by
  obtain ⟨x1, e1⟩ : ∃ x, (s.toList == [43]) = x := ⟨_, rfl⟩
  obtain ⟨x2, e2⟩ : ∃ x, (s.toList == [45]) = x := ⟨_, rfl⟩
  obtain ⟨x3, e3⟩ : ∃ x, (s.toList == [42]) = x := ⟨_, rfl⟩
  obtain ⟨x4, e4⟩ : ∃ x, (s.toList == [61, 61]) = x := ⟨_, rfl⟩
  obtain ⟨x5, e5⟩ : ∃ x, (s.toList == [60]) = x := ⟨_, rfl⟩
  have HB : Hid ((x1 || x2 || x3 || x4 || x5) = true ↔ OpP s) := by
    subst e1 e2 e3 e4 e5
    unfold OpP
    show _ ↔ _
    simp [or_assoc]
  go_enter Tryd.func77, Tryd.ntmps77
  cases x1
  · cases x2
    · cases x3
      · cases x4
        · cases x5
          · go_wp2_with fail
            go_ret
            exact ⟨false, rfl, by simpa using HB.out, rfl⟩
          · go_wp2_with fail
            go_ret
            exact ⟨true, rfl, by simpa using HB.out, rfl⟩
        · go_wp2_with fail
          go_ret
          exact ⟨true, rfl, by simpa using HB.out, rfl⟩
      · go_wp2_with fail
        go_ret
        exact ⟨true, rfl, by simpa using HB.out, rfl⟩
    · go_wp2_with fail
      go_ret
      exact ⟨true, rfl, by simpa using HB.out, rfl⟩
  · go_wp2_with fail
    go_ret
    exact ⟨true, rfl, by simpa using HB.out, rfl⟩

theorem fit1 (n : Int) (s : ByteArray) (e c : Nat) : Fit 1 n s e c ↔ c = 0 ∧ 0 ≤ n ∧ n ≤ 1000000000000 ∧ s.size = 0 ∧ e = 0 := by
  unfold Fit FitK
  simp
theorem fit2 (n : Int) (s : ByteArray) (e c : Nat) : Fit 2 n s e c ↔ n = 0 ∧ c = 0 ∧ (AtomP s ∧ ¬ Wrd s) ∧ e = 0 := by
  unfold Fit FitK
  simp
theorem fit3 (n : Int) (s : ByteArray) (e c : Nat) : Fit 3 n s e c ↔ n = 0 ∧ c = 0 ∧ NameP s ∧ e = 0 := by
  unfold Fit FitK
  simp
theorem fit4 (n : Int) (s : ByteArray) (e c : Nat) : Fit 4 n s e c ↔ n = 0 ∧ c = 0 ∧ s.size = 0 ∧ e ≤ 20 := by
  unfold Fit FitK
  simp
theorem fit5 (n : Int) (s : ByteArray) (e c : Nat) : Fit 5 n s e c ↔ n = 0 ∧ c = 0 ∧ s.size = 0 ∧ e ≤ 20 := by
  unfold Fit FitK
  simp
theorem fit6 (n : Int) (s : ByteArray) (e c : Nat) : Fit 6 n s e c ↔ n = 0 ∧ c = 0 ∧ s.size = 0 ∧ 2 ≤ e ∧ e ≤ 6 := by
  unfold Fit FitK
  simp
theorem fit7 (n : Int) (s : ByteArray) (e c : Nat) : Fit 7 n s e c ↔ n = 0 ∧ c = 0 ∧ OpP s ∧ e = 2 := by
  unfold Fit FitK
  simp
theorem fit8 (n : Int) (s : ByteArray) (e c : Nat) : Fit 8 n s e c ↔ n = 0 ∧ c = 0 ∧ (AtomP s ∧ ¬ Wrd s) ∧ e ≤ 4 := by
  unfold Fit FitK
  simp
theorem fit9 (n : Int) (s : ByteArray) (e c : Nat) : Fit 9 n s e c ↔ n = 0 ∧ s.size = 0 ∧ e = 1 ∧ 1 ≤ c ∧ c ≤ 6 := by
  unfold Fit FitK
  simp
theorem fit_no (k n : Int) (s : ByteArray) (e c : Nat) (h : ¬ (1 ≤ k ∧ k ≤ 9)) : ¬ Fit k n s e c := by
  rintro ⟨_, _, h1 | h1 | h1 | h1 | h1 | h1 | h1 | h1⟩ <;> omega

end Go.Proofs.YtfachfimdenapaaDoor

/- The model's test of an expression's own fields. -/
namespace Go.Proofs.YtfachfimdenapaaDoor
open Go.RowKit
set_option linter.unusedVariables false

/-- As an expression, or as a pattern. -/
def ShX (pat : Bool) (k n : Int) (s : ByteArray) (e c : Nat) : Prop := Fit k n s e c ∧ (pat = true → k ≤ 6) ∧ (pat = false → k = 3 → ¬ s.toList = [95])

theorem l4Reserved_any (s : ByteArray) (w : World) : Calls Tryd.prog 62 #[.string s] w fun e w' => ∃ b : Bool, e = .returned (.bool b) ∧ Hid (b = true ↔ Wrd s) ∧ w = w' := by
  obtain ⟨x1, e1⟩ : ∃ x, (s.toList == [99, 97, 115, 101]) = x := ⟨_, rfl⟩
  obtain ⟨x2, e2⟩ : ∃ x, (s.toList == [111, 102]) = x := ⟨_, rfl⟩
  obtain ⟨x3, e3⟩ : ∃ x, (s.toList == [101, 110, 100]) = x := ⟨_, rfl⟩
  have HB : Hid ((x1 || x2 || x3) = true ↔ Wrd s) := by
    subst e1 e2 e3
    unfold Wrd
    show _ ↔ _
    simp [or_assoc]
  go_enter Tryd.func62, Tryd.ntmps62
  cases x1
  · cases x2
    · cases x3
      · go_wp2_with fail
        go_ret
        exact ⟨false, rfl, HB, rfl⟩
      · go_wp2_with fail
        go_ret
        exact ⟨true, rfl, HB, rfl⟩
    · go_wp2_with fail
      go_ret
      exact ⟨true, rfl, HB, rfl⟩
  · go_wp2_with fail
    go_ret
    exact ⟨true, rfl, HB, rfl⟩

theorem l4Op_any (s : ByteArray) (w : World) : Calls Tryd.prog 63 #[.string s] w fun e w' => ∃ b : Bool, e = .returned (.bool b) ∧ Hid (b = true ↔ OpP s) ∧ w = w' := by
  obtain ⟨x1, e1⟩ : ∃ x, (s.toList == [43]) = x := ⟨_, rfl⟩
  obtain ⟨x2, e2⟩ : ∃ x, (s.toList == [45]) = x := ⟨_, rfl⟩
  obtain ⟨x3, e3⟩ : ∃ x, (s.toList == [42]) = x := ⟨_, rfl⟩
  obtain ⟨x4, e4⟩ : ∃ x, (s.toList == [61, 61]) = x := ⟨_, rfl⟩
  obtain ⟨x5, e5⟩ : ∃ x, (s.toList == [60]) = x := ⟨_, rfl⟩
  have HB : Hid ((x1 || x2 || x3 || x4 || x5) = true ↔ OpP s) := by
    subst e1 e2 e3 e4 e5
    unfold OpP
    show _ ↔ _
    simp [or_assoc]
  go_enter Tryd.func63, Tryd.ntmps63
  cases x1
  · cases x2
    · cases x3
      · cases x4
        · cases x5
          · go_wp2_with fail
            go_ret
            exact ⟨false, rfl, HB, rfl⟩
          · go_wp2_with fail
            go_ret
            exact ⟨true, rfl, HB, rfl⟩
        · go_wp2_with fail
          go_ret
          exact ⟨true, rfl, HB, rfl⟩
      · go_wp2_with fail
        go_ret
        exact ⟨true, rfl, HB, rfl⟩
    · go_wp2_with fail
      go_ret
      exact ⟨true, rfl, HB, rfl⟩
  · go_wp2_with fail
    go_ret
    exact ⟨true, rfl, HB, rfl⟩

theorem l4Atom_any (s : ByteArray) (w : World) (hs : s.size ≤ 9223372036854775807) : Calls Tryd.prog 47 #[.string s] w fun e w' => ∃ b : Bool, e = .returned (.bool b) ∧ Hid (b = true ↔ AtomP s ∧ ¬ Wrd s) ∧ Below w.heap.size w w' := by
  have hA := specAtomOk_any s w hs
  have HRV : Hid (∀ V : World, _) := fun V => l4Reserved_any s V
  go_enter Tryd.func47, Tryd.ntmps47
  go_wp2_with fail
  refine hA.mono ?_
  clear hA
  rintro e w1 ⟨b, rfl, hb, hw1⟩
  have HW1 : Hid (Below w.heap.size w w1) := (by rw [← hw1]; exact Below.refl _ _)
  have HB : Hid (b = true ↔ AtomP s) := hb
  clear hb hw1
  cases b
  · have HN : Hid (¬ (AtomP s ∧ ¬ Wrd s)) := fun h => by have := HB.out.2 h.1; cases this
    go_wp2_with fail
    go_ret
    exact ⟨false, rfl, iff_no HN.out, HW1.out⟩
  · go_wp2_with fail
    refine (HRV.out _).mono ?_
    rintro e w2 ⟨b2, rfl, hb2, rfl⟩
    cases b2
    · have HY : Hid (AtomP s ∧ ¬ Wrd s) := ⟨HB.out.1 (by simp), fun h => by have := hb2.out.2 h; cases this⟩
      go_wp2_with fail
      go_ret
      exact ⟨true, rfl, iff_yes HY.out, HW1.out⟩
    · have HN : Hid (¬ (AtomP s ∧ ¬ Wrd s)) := fun h => h.2 (hb2.out.1 (by simp))
      go_wp2_with fail
      go_ret
      exact ⟨false, rfl, iff_no HN.out, HW1.out⟩

end Go.Proofs.YtfachfimdenapaaDoor
