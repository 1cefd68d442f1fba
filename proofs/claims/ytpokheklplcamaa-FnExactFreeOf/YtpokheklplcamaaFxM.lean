/- What an expression's own fields must be. -/
import Derived.Test.YtpokheklplcamaaRowClauseM
import Derived.Test.YtpokheklplcamaaExAtM
import Derived.Test.YtpokheklplcamaaTk1M
import Derived.Test.YtpokheklplcamaaSVarsM
namespace Go.Proofs.Ytpokheklplcamaa
open Go.RowKit
set_option linter.unusedVariables false

def OpP (s : ByteArray) : Prop := s.toList = [43] ∨ s.toList = [45] ∨ s.toList = [42] ∨ s.toList = [61, 61] ∨ s.toList = [60]

/-- What goes for each kind. -/
def FitK (k n : Int) (s : ByteArray) (e c : Nat) : Prop :=
  (k = 1 ∧ 0 ≤ n ∧ n ≤ 1000000000000 ∧ s.size = 0 ∧ e = 0) ∨ (k = 2 ∧ (AtomP s ∧ ¬ Wrd s) ∧ e = 0) ∨ (k = 3 ∧ NameP s ∧ e = 0) ∨ ((k = 4 ∨ k = 5) ∧ s.size = 0 ∧ e ≤ 20) ∨ (k = 6 ∧ s.size = 0 ∧ 2 ≤ e ∧ e ≤ 6) ∨ (k = 7 ∧ OpP s ∧ e = 2) ∨ (k = 8 ∧ (AtomP s ∧ ¬ Wrd s) ∧ e ≤ 4) ∨ (k = 9 ∧ s.size = 0 ∧ e = 1 ∧ 1 ≤ c ∧ c ≤ 6)

/-- The fields fit. -/
def Fit (k n : Int) (s : ByteArray) (e c : Nat) : Prop := (k = 1 ∨ n = 0) ∧ (k = 9 ∨ c = 0) ∧ FitK k n s e c

theorem opOk_any (s : ByteArray) (w : World) : Calls Try.prog 95 #[.string s] w fun e w' => ∃ b : Bool, e = .returned (.bool b) ∧ (b = true ↔ OpP s) ∧ w = w' := by
  obtain ⟨x1, e1⟩ : ∃ x, (s.toList == [43]) = x := ⟨_, rfl⟩
  obtain ⟨x2, e2⟩ : ∃ x, (s.toList == [45]) = x := ⟨_, rfl⟩
  obtain ⟨x3, e3⟩ : ∃ x, (s.toList == [42]) = x := ⟨_, rfl⟩
  obtain ⟨x4, e4⟩ : ∃ x, (s.toList == [61, 61]) = x := ⟨_, rfl⟩
  obtain ⟨x5, e5⟩ : ∃ x, (s.toList == [60]) = x := ⟨_, rfl⟩
  have HB : Hid ((x1 || x2 || x3 || x4 || x5) = true ↔ OpP s) := by
    subst e1 e2 e3 e4 e5
    unfold OpP
    show _ ↔ _
    simp [or_assoc]
  go_enter Try.func95, Try.ntmps95
  cases x1
  · cases x2
    · cases x3
      · cases x4
        · cases x5
          · go_wp2_with fail
            go_ret
            exact ⟨false, rfl, by simpa using HB.out, rfl⟩
          · go_wp2_with fail
            go_ret
            exact ⟨true, rfl, by simpa using HB.out, rfl⟩
        · go_wp2_with fail
          go_ret
          exact ⟨true, rfl, by simpa using HB.out, rfl⟩
      · go_wp2_with fail
        go_ret
        exact ⟨true, rfl, by simpa using HB.out, rfl⟩
    · go_wp2_with fail
      go_ret
      exact ⟨true, rfl, by simpa using HB.out, rfl⟩
  · go_wp2_with fail
    go_ret
    exact ⟨true, rfl, by simpa using HB.out, rfl⟩

theorem fit1 (n : Int) (s : ByteArray) (e c : Nat) : Fit 1 n s e c ↔ c = 0 ∧ 0 ≤ n ∧ n ≤ 1000000000000 ∧ s.size = 0 ∧ e = 0 := by
  unfold Fit FitK
  simp
theorem fit2 (n : Int) (s : ByteArray) (e c : Nat) : Fit 2 n s e c ↔ n = 0 ∧ c = 0 ∧ (AtomP s ∧ ¬ Wrd s) ∧ e = 0 := by
  unfold Fit FitK
  simp
theorem fit3 (n : Int) (s : ByteArray) (e c : Nat) : Fit 3 n s e c ↔ n = 0 ∧ c = 0 ∧ NameP s ∧ e = 0 := by
  unfold Fit FitK
  simp
theorem fit4 (n : Int) (s : ByteArray) (e c : Nat) : Fit 4 n s e c ↔ n = 0 ∧ c = 0 ∧ s.size = 0 ∧ e ≤ 20 := by
  unfold Fit FitK
  simp
theorem fit5 (n : Int) (s : ByteArray) (e c : Nat) : Fit 5 n s e c ↔ n = 0 ∧ c = 0 ∧ s.size = 0 ∧ e ≤ 20 := by
  unfold Fit FitK
  simp
theorem fit6 (n : Int) (s : ByteArray) (e c : Nat) : Fit 6 n s e c ↔ n = 0 ∧ c = 0 ∧ s.size = 0 ∧ 2 ≤ e ∧ e ≤ 6 := by
  unfold Fit FitK
  simp
theorem fit7 (n : Int) (s : ByteArray) (e c : Nat) : Fit 7 n s e c ↔ n = 0 ∧ c = 0 ∧ OpP s ∧ e = 2 := by
  unfold Fit FitK
  simp
theorem fit8 (n : Int) (s : ByteArray) (e c : Nat) : Fit 8 n s e c ↔ n = 0 ∧ c = 0 ∧ (AtomP s ∧ ¬ Wrd s) ∧ e ≤ 4 := by
  unfold Fit FitK
  simp
theorem fit9 (n : Int) (s : ByteArray) (e c : Nat) : Fit 9 n s e c ↔ n = 0 ∧ s.size = 0 ∧ e = 1 ∧ 1 ≤ c ∧ c ≤ 6 := by
  unfold Fit FitK
  simp
theorem fit_no (k n : Int) (s : ByteArray) (e c : Nat) (h : ¬ (1 ≤ k ∧ k ≤ 9)) : ¬ Fit k n s e c := by
  rintro ⟨_, _, h1 | h1 | h1 | h1 | h1 | h1 | h1 | h1⟩ <;> omega

end Go.Proofs.Ytpokheklplcamaa

/- The model's test of an expression's own fields. -/
namespace Go.Proofs.Ytpokheklplcamaa
open Go.RowKit
set_option linter.unusedVariables false

/-- As an expression, or as a pattern. -/
def ShX (pat : Bool) (k n : Int) (s : ByteArray) (e c : Nat) : Prop := Fit k n s e c ∧ (pat = true → k ≤ 6) ∧ (pat = false → k = 3 → ¬ s.toList = [95])

theorem l4Reserved_any (s : ByteArray) (w : World) : Calls Try.prog 114 #[.string s] w fun e w' => ∃ b : Bool, e = .returned (.bool b) ∧ Hid (b = true ↔ Wrd s) ∧ w = w' := by
  obtain ⟨x1, e1⟩ : ∃ x, (s.toList == [99, 97, 115, 101]) = x := ⟨_, rfl⟩
  obtain ⟨x2, e2⟩ : ∃ x, (s.toList == [111, 102]) = x := ⟨_, rfl⟩
  obtain ⟨x3, e3⟩ : ∃ x, (s.toList == [101, 110, 100]) = x := ⟨_, rfl⟩
  have HB : Hid ((x1 || x2 || x3) = true ↔ Wrd s) := by
    subst e1 e2 e3
    unfold Wrd
    show _ ↔ _
    simp [or_assoc]
  go_enter Try.func114, Try.ntmps114
  cases x1
  · cases x2
    · cases x3
      · go_wp2_with fail
        go_ret
        exact ⟨false, rfl, HB, rfl⟩
      · go_wp2_with fail
        go_ret
        exact ⟨true, rfl, HB, rfl⟩
    · go_wp2_with fail
      go_ret
      exact ⟨true, rfl, HB, rfl⟩
  · go_wp2_with fail
    go_ret
    exact ⟨true, rfl, HB, rfl⟩

theorem l4Op_any (s : ByteArray) (w : World) : Calls Try.prog 103 #[.string s] w fun e w' => ∃ b : Bool, e = .returned (.bool b) ∧ Hid (b = true ↔ OpP s) ∧ w = w' := by
  obtain ⟨x1, e1⟩ : ∃ x, (s.toList == [43]) = x := ⟨_, rfl⟩
  obtain ⟨x2, e2⟩ : ∃ x, (s.toList == [45]) = x := ⟨_, rfl⟩
  obtain ⟨x3, e3⟩ : ∃ x, (s.toList == [42]) = x := ⟨_, rfl⟩
  obtain ⟨x4, e4⟩ : ∃ x, (s.toList == [61, 61]) = x := ⟨_, rfl⟩
  obtain ⟨x5, e5⟩ : ∃ x, (s.toList == [60]) = x := ⟨_, rfl⟩
  have HB : Hid ((x1 || x2 || x3 || x4 || x5) = true ↔ OpP s) := by
    subst e1 e2 e3 e4 e5
    unfold OpP
    show _ ↔ _
    simp [or_assoc]
  go_enter Try.func103, Try.ntmps103
  cases x1
  · cases x2
    · cases x3
      · cases x4
        · cases x5
          · go_wp2_with fail
            go_ret
            exact ⟨false, rfl, HB, rfl⟩
          · go_wp2_with fail
            go_ret
            exact ⟨true, rfl, HB, rfl⟩
        · go_wp2_with fail
          go_ret
          exact ⟨true, rfl, HB, rfl⟩
      · go_wp2_with fail
        go_ret
        exact ⟨true, rfl, HB, rfl⟩
    · go_wp2_with fail
      go_ret
      exact ⟨true, rfl, HB, rfl⟩
  · go_wp2_with fail
    go_ret
    exact ⟨true, rfl, HB, rfl⟩

theorem l4Atom_any (s : ByteArray) (w : World) (hs : s.size ≤ 9223372036854775807) : Calls Try.prog 101 #[.string s] w fun e w' => ∃ b : Bool, e = .returned (.bool b) ∧ Hid (b = true ↔ AtomP s ∧ ¬ Wrd s) ∧ Below w.heap.size w w' := by
  have hA := specAtomOk_any s w hs
  have HRV : Hid (∀ V : World, _) := fun V => l4Reserved_any s V
  go_enter Try.func101, Try.ntmps101
  go_wp2_with fail
  refine hA.mono ?_
  clear hA
  rintro e w1 ⟨b, rfl, hb, hw1⟩
  have HW1 : Hid (Below w.heap.size w w1) := (by rw [← hw1]; exact Below.refl _ _)
  have HB : Hid (b = true ↔ AtomP s) := hb
  clear hb hw1
  cases b
  · have HN : Hid (¬ (AtomP s ∧ ¬ Wrd s)) := fun h => by have := HB.out.2 h.1; cases this
    go_wp2_with fail
    go_ret
    exact ⟨false, rfl, iff_no HN.out, HW1.out⟩
  · go_wp2_with fail
    refine (HRV.out _).mono ?_
    rintro e w2 ⟨b2, rfl, hb2, rfl⟩
    cases b2
    · have HY : Hid (AtomP s ∧ ¬ Wrd s) := ⟨HB.out.1 (by simp), fun h => by have := hb2.out.2 h; cases this⟩
      go_wp2_with fail
      go_ret
      exact ⟨true, rfl, iff_yes HY.out, HW1.out⟩
    · have HN : Hid (¬ (AtomP s ∧ ¬ Wrd s)) := fun h => h.2 (hb2.out.1 (by simp))
      go_wp2_with fail
      go_ret
      exact ⟨false, rfl, iff_no HN.out, HW1.out⟩

set_option maxHeartbeats 2000000 in
theorem specFit_false_1 (n : Int) (s : ByteArray) (a3 : Option Addr) (e c3 : Nat) (a4 : Option Addr) (c c4 : Nat) (w : World) (hs : s.size ≤ 9223372036854775807) (he : e ≤ 9223372036854775807) (hc : c ≤ 9223372036854775807) :
    Calls Try.prog 77 #[.agg #[.int .i64 1, .int .i64 n, .string s, .slice a3 e c3, .slice a4 c c4], .bool false] w fun r w' => ∃ b : Bool, r = .returned (.bool b) ∧ Hid (b = true ↔ ShX false 1 n s e c) ∧ Below w.heap.size w w' := by
  have hA : Below w.heap.size w (w.alloc (.cells #[.int .i64 1, .int .i64 n, .string s, .slice a3 e c3, .slice a4 c c4] 27)) := (Below.refl _ _).alloc (Nat.le_refl _) _
  by_cases hP0 : c = 0
  · subst hP0
    by_cases hP1 : 0 ≤ n ∧ n ≤ 1000000000000
    · have HP1 : Hid (0 ≤ n ∧ n ≤ 1000000000000) := hP1
      have hF1 : decide ((0 : Int) ≤ n ∧ n ≤ 1000000000000) = true := decide_eq_true hP1
      clear hP1
      by_cases hP2 : s.size = 0
      · have HP2 : Hid (s.size = 0) := hP2
        have hF2 := (empty_iff s).2 hP2
        clear hP2
        by_cases hP3 : e = 0
        · have HP3 : Hid (e = 0) := hP3
          have hF3 : ((e : Int) == 0) = true := by simp [hP3]
          clear hP3
          go_enter Try.func77, Try.ntmps77
          go_wp2_with fail
          refine (specIn_any n 0 1000000000000 _).mono ?_
          rintro _ _ ⟨rfl, rfl⟩
          go_wp2_with fail
          go_ret
          first | exact ⟨true, rfl, iff_yes ⟨(fit1 _ _ _ _).2 ⟨rfl, HP1.out.1, HP1.out.2, HP2.out, HP3.out⟩, (fun h => by cases h), (fun _ h => by cases h)⟩, hA⟩ | exact .inr ⟨rfl, iff_yes ⟨(fit1 _ _ _ _).2 ⟨rfl, HP1.out.1, HP1.out.2, HP2.out, HP3.out⟩, (fun h => by cases h), (fun _ h => by cases h)⟩, hA⟩
        · have HP3 : Hid (¬ (e = 0)) := hP3
          have hF3 : ((e : Int) == 0) = false := by simp [hP3]
          clear hP3
          go_enter Try.func77, Try.ntmps77
          go_wp2_with fail
          refine (specIn_any n 0 1000000000000 _).mono ?_
          rintro _ _ ⟨rfl, rfl⟩
          go_wp2_with fail
          go_ret
          first | exact ⟨false, rfl, iff_no (fun h0 => HP3.out (by have hh := (fit1 _ _ _ _).1 h0.1; exact hh.2.2.2.2)), hA⟩ | exact .inl ⟨rfl, iff_no (fun h0 => HP3.out (by have hh := (fit1 _ _ _ _).1 h0.1; exact hh.2.2.2.2)), hA⟩
      · have HP2 : Hid (¬ (s.size = 0)) := hP2
        have hF2 := empty_no hP2
        clear hP2
        go_enter Try.func77, Try.ntmps77
        go_wp2_with fail
        refine (specIn_any n 0 1000000000000 _).mono ?_
        rintro _ _ ⟨rfl, rfl⟩
        go_wp2_with fail
        go_ret
        first | exact ⟨false, rfl, iff_no (fun h0 => HP2.out (by have hh := (fit1 _ _ _ _).1 h0.1; exact hh.2.2.2.1)), hA⟩ | exact .inl ⟨rfl, iff_no (fun h0 => HP2.out (by have hh := (fit1 _ _ _ _).1 h0.1; exact hh.2.2.2.1)), hA⟩
    · have HP1 : Hid (¬ (0 ≤ n ∧ n ≤ 1000000000000)) := hP1
      have hF1 : decide ((0 : Int) ≤ n ∧ n ≤ 1000000000000) = false := decide_eq_false hP1
      clear hP1
      go_enter Try.func77, Try.ntmps77
      go_wp2_with fail
      refine (specIn_any n 0 1000000000000 _).mono ?_
      rintro _ _ ⟨rfl, rfl⟩
      go_wp2_with fail
      go_ret
      first | exact ⟨false, rfl, iff_no (fun h0 => HP1.out (by have hh := (fit1 _ _ _ _).1 h0.1; exact ⟨hh.2.1, hh.2.2.1⟩)), hA⟩ | exact .inl ⟨rfl, iff_no (fun h0 => HP1.out (by have hh := (fit1 _ _ _ _).1 h0.1; exact ⟨hh.2.1, hh.2.2.1⟩)), hA⟩
  · have HP0 : Hid (¬ (c = 0)) := hP0
    have hF0 : (0 : Int) < (c : Int) := by omega
    clear hP0
    go_enter Try.func77, Try.ntmps77
    go_wp2_with fail
    go_ret
    first | exact ⟨false, rfl, iff_no (fun h0 => HP0.out (by have hh := (fit1 _ _ _ _).1 h0.1; exact hh.1)), hA⟩ | exact .inl ⟨rfl, iff_no (fun h0 => HP0.out (by have hh := (fit1 _ _ _ _).1 h0.1; exact hh.1)), hA⟩

set_option maxHeartbeats 2000000 in
theorem specFit_false_2 (n : Int) (s : ByteArray) (a3 : Option Addr) (e c3 : Nat) (a4 : Option Addr) (c c4 : Nat) (w : World) (hs : s.size ≤ 9223372036854775807) (he : e ≤ 9223372036854775807) (hc : c ≤ 9223372036854775807) :
    Calls Try.prog 77 #[.agg #[.int .i64 2, .int .i64 n, .string s, .slice a3 e c3, .slice a4 c c4], .bool false] w fun r w' => ∃ b : Bool, r = .returned (.bool b) ∧ Hid (b = true ↔ ShX false 2 n s e c) ∧ Below w.heap.size w w' := by
  have hA : Below w.heap.size w (w.alloc (.cells #[.int .i64 2, .int .i64 n, .string s, .slice a3 e c3, .slice a4 c c4] 27)) := (Below.refl _ _).alloc (Nat.le_refl _) _
  by_cases hP0 : c = 0
  · subst hP0
    by_cases hP1 : n = 0
    · subst hP1
      by_cases hP2 : AtomP s ∧ ¬ Wrd s
      · have HP2 : Hid (AtomP s ∧ ¬ Wrd s) := hP2
        clear hP2
        by_cases hP3 : e = 0
        · have HP3 : Hid (e = 0) := hP3
          have hF3 : ((e : Int) == 0) = true := by simp [hP3]
          clear hP3
          go_enter Try.func77, Try.ntmps77
          go_wp2_with fail
          refine (l4Atom_any s _ hs).mono ?_
          rintro _ wv ⟨b, rfl, hb, hwv⟩
          have hA := hA.trans (hwv.mono hA.size)
          obtain rfl : b = true := hb.out.2 HP2.out
          clear hb hwv
          go_wp2_with fail
          go_ret
          first | exact ⟨true, rfl, iff_yes ⟨(fit2 _ _ _ _).2 ⟨rfl, rfl, HP2.out, HP3.out⟩, (fun h => by cases h), (fun _ h => by cases h)⟩, hA⟩ | exact .inr ⟨rfl, iff_yes ⟨(fit2 _ _ _ _).2 ⟨rfl, rfl, HP2.out, HP3.out⟩, (fun h => by cases h), (fun _ h => by cases h)⟩, hA⟩
        · have HP3 : Hid (¬ (e = 0)) := hP3
          have hF3 : ((e : Int) == 0) = false := by simp [hP3]
          clear hP3
          go_enter Try.func77, Try.ntmps77
          go_wp2_with fail
          refine (l4Atom_any s _ hs).mono ?_
          rintro _ wv ⟨b, rfl, hb, hwv⟩
          have hA := hA.trans (hwv.mono hA.size)
          obtain rfl : b = true := hb.out.2 HP2.out
          clear hb hwv
          go_wp2_with fail
          go_ret
          first | exact ⟨false, rfl, iff_no (fun h0 => HP3.out (by have hh := (fit2 _ _ _ _).1 h0.1; exact hh.2.2.2)), hA⟩ | exact .inl ⟨rfl, iff_no (fun h0 => HP3.out (by have hh := (fit2 _ _ _ _).1 h0.1; exact hh.2.2.2)), hA⟩
      · have HP2 : Hid (¬ (AtomP s ∧ ¬ Wrd s)) := hP2
        clear hP2
        go_enter Try.func77, Try.ntmps77
        go_wp2_with fail
        refine (l4Atom_any s _ hs).mono ?_
        rintro _ wv ⟨b, rfl, hb, hwv⟩
        have hA := hA.trans (hwv.mono hA.size)
        obtain rfl : b = false := by cases b; exact rfl; exact absurd (hb.out.1 rfl) HP2.out
        clear hb hwv
        go_wp2_with fail
        go_ret
        first | exact ⟨false, rfl, iff_no (fun h0 => HP2.out (by have hh := (fit2 _ _ _ _).1 h0.1; exact hh.2.2.1)), hA⟩ | exact .inl ⟨rfl, iff_no (fun h0 => HP2.out (by have hh := (fit2 _ _ _ _).1 h0.1; exact hh.2.2.1)), hA⟩
    · have HP1 : Hid (¬ (n = 0)) := hP1
      have hF1 : (n == 0) = false := by simpa using hP1
      clear hP1
      go_enter Try.func77, Try.ntmps77
      go_wp2_with fail
      go_ret
      first | exact ⟨false, rfl, iff_no (fun h0 => HP1.out (by have hh := (fit2 _ _ _ _).1 h0.1; exact hh.1)), hA⟩ | exact .inl ⟨rfl, iff_no (fun h0 => HP1.out (by have hh := (fit2 _ _ _ _).1 h0.1; exact hh.1)), hA⟩
  · have HP0 : Hid (¬ (c = 0)) := hP0
    have hF0 : (0 : Int) < (c : Int) := by omega
    clear hP0
    go_enter Try.func77, Try.ntmps77
    go_wp2_with fail
    go_ret
    first | exact ⟨false, rfl, iff_no (fun h0 => HP0.out (by have hh := (fit2 _ _ _ _).1 h0.1; exact hh.2.1)), hA⟩ | exact .inl ⟨rfl, iff_no (fun h0 => HP0.out (by have hh := (fit2 _ _ _ _).1 h0.1; exact hh.2.1)), hA⟩

set_option maxHeartbeats 2000000 in
theorem specFit_false_3 (n : Int) (s : ByteArray) (a3 : Option Addr) (e c3 : Nat) (a4 : Option Addr) (c c4 : Nat) (w : World) (hs : s.size ≤ 9223372036854775807) (he : e ≤ 9223372036854775807) (hc : c ≤ 9223372036854775807) :
    Calls Try.prog 77 #[.agg #[.int .i64 3, .int .i64 n, .string s, .slice a3 e c3, .slice a4 c c4], .bool false] w fun r w' => ∃ b : Bool, r = .returned (.bool b) ∧ Hid (b = true ↔ ShX false 3 n s e c) ∧ Below w.heap.size w w' := by
  have hA : Below w.heap.size w (w.alloc (.cells #[.int .i64 3, .int .i64 n, .string s, .slice a3 e c3, .slice a4 c c4] 27)) := (Below.refl _ _).alloc (Nat.le_refl _) _
  by_cases hP0 : c = 0
  · subst hP0
    by_cases hP1 : n = 0
    · subst hP1
      by_cases hP2 : NameP s
      · have HP2 : Hid (NameP s) := hP2
        clear hP2
        by_cases hP3 : e = 0
        · have HP3 : Hid (e = 0) := hP3
          have hF3 : ((e : Int) == 0) = true := by simp [hP3]
          clear hP3
          by_cases hP4 : ¬ s.toList = [95]
          · have HP4 : Hid (¬ s.toList = [95]) := hP4
            have hF4 : (s.toList == [95]) = false := by simpa using hP4
            clear hP4
            go_enter Try.func77, Try.ntmps77
            go_wp2_with fail
            refine (specVarOk_any s _ hs).mono ?_
            rintro _ _ ⟨b, rfl, hb, rfl⟩
            obtain rfl : b = true := hb.2 HP2.out
            clear hb
            go_wp2_with fail
            go_ret
            first | exact ⟨true, rfl, iff_yes ⟨(fit3 _ _ _ _).2 ⟨rfl, rfl, HP2.out, HP3.out⟩, (fun h => by cases h), (fun _ _ => HP4.out)⟩, hA⟩ | exact .inr ⟨rfl, iff_yes ⟨(fit3 _ _ _ _).2 ⟨rfl, rfl, HP2.out, HP3.out⟩, (fun h => by cases h), (fun _ _ => HP4.out)⟩, hA⟩
          · have HP4 : Hid (¬ (¬ s.toList = [95])) := hP4
            have hF4 : (s.toList == [95]) = true := by simpa using hP4
            clear hP4
            go_enter Try.func77, Try.ntmps77
            go_wp2_with fail
            refine (specVarOk_any s _ hs).mono ?_
            rintro _ _ ⟨b, rfl, hb, rfl⟩
            obtain rfl : b = true := hb.2 HP2.out
            clear hb
            go_wp2_with fail
            go_ret
            first | exact ⟨false, rfl, iff_no (fun h0 => HP4.out (h0.2.2 rfl rfl)), hA⟩ | exact .inl ⟨rfl, iff_no (fun h0 => HP4.out (h0.2.2 rfl rfl)), hA⟩
        · have HP3 : Hid (¬ (e = 0)) := hP3
          have hF3 : ((e : Int) == 0) = false := by simp [hP3]
          clear hP3
          go_enter Try.func77, Try.ntmps77
          go_wp2_with fail
          refine (specVarOk_any s _ hs).mono ?_
          rintro _ _ ⟨b, rfl, hb, rfl⟩
          obtain rfl : b = true := hb.2 HP2.out
          clear hb
          go_wp2_with fail
          go_ret
          first | exact ⟨false, rfl, iff_no (fun h0 => HP3.out (by have hh := (fit3 _ _ _ _).1 h0.1; exact hh.2.2.2)), hA⟩ | exact .inl ⟨rfl, iff_no (fun h0 => HP3.out (by have hh := (fit3 _ _ _ _).1 h0.1; exact hh.2.2.2)), hA⟩
      · have HP2 : Hid (¬ (NameP s)) := hP2
        clear hP2
        go_enter Try.func77, Try.ntmps77
        go_wp2_with fail
        refine (specVarOk_any s _ hs).mono ?_
        rintro _ _ ⟨b, rfl, hb, rfl⟩
        obtain rfl : b = false := by cases b; exact rfl; exact absurd (hb.1 rfl) HP2.out
        clear hb
        go_wp2_with fail
        go_ret
        first | exact ⟨false, rfl, iff_no (fun h0 => HP2.out (by have hh := (fit3 _ _ _ _).1 h0.1; exact hh.2.2.1)), hA⟩ | exact .inl ⟨rfl, iff_no (fun h0 => HP2.out (by have hh := (fit3 _ _ _ _).1 h0.1; exact hh.2.2.1)), hA⟩
    · have HP1 : Hid (¬ (n = 0)) := hP1
      have hF1 : (n == 0) = false := by simpa using hP1
      clear hP1
      go_enter Try.func77, Try.ntmps77
      go_wp2_with fail
      go_ret
      first | exact ⟨false, rfl, iff_no (fun h0 => HP1.out (by have hh := (fit3 _ _ _ _).1 h0.1; exact hh.1)), hA⟩ | exact .inl ⟨rfl, iff_no (fun h0 => HP1.out (by have hh := (fit3 _ _ _ _).1 h0.1; exact hh.1)), hA⟩
  · have HP0 : Hid (¬ (c = 0)) := hP0
    have hF0 : (0 : Int) < (c : Int) := by omega
    clear hP0
    go_enter Try.func77, Try.ntmps77
    go_wp2_with fail
    go_ret
    first | exact ⟨false, rfl, iff_no (fun h0 => HP0.out (by have hh := (fit3 _ _ _ _).1 h0.1; exact hh.2.1)), hA⟩ | exact .inl ⟨rfl, iff_no (fun h0 => HP0.out (by have hh := (fit3 _ _ _ _).1 h0.1; exact hh.2.1)), hA⟩

set_option maxHeartbeats 2000000 in
theorem specFit_false_4 (n : Int) (s : ByteArray) (a3 : Option Addr) (e c3 : Nat) (a4 : Option Addr) (c c4 : Nat) (w : World) (hs : s.size ≤ 9223372036854775807) (he : e ≤ 9223372036854775807) (hc : c ≤ 9223372036854775807) :
    Calls Try.prog 77 #[.agg #[.int .i64 4, .int .i64 n, .string s, .slice a3 e c3, .slice a4 c c4], .bool false] w fun r w' => ∃ b : Bool, r = .returned (.bool b) ∧ Hid (b = true ↔ ShX false 4 n s e c) ∧ Below w.heap.size w w' := by
  have hA : Below w.heap.size w (w.alloc (.cells #[.int .i64 4, .int .i64 n, .string s, .slice a3 e c3, .slice a4 c c4] 27)) := (Below.refl _ _).alloc (Nat.le_refl _) _
  by_cases hP0 : c = 0
  · subst hP0
    by_cases hP1 : n = 0
    · subst hP1
      by_cases hP2 : s.size = 0
      · have HP2 : Hid (s.size = 0) := hP2
        have hF2 := (empty_iff s).2 hP2
        clear hP2
        by_cases hP3 : e ≤ 20
        · have HP3 : Hid (e ≤ 20) := hP3
          have hF3 : decide ((e : Int) ≤ 20) = true := by simp; omega
          clear hP3
          go_enter Try.func77, Try.ntmps77
          go_wp2_with fail
          go_ret
          first | exact ⟨true, rfl, iff_yes ⟨(fit4 _ _ _ _).2 ⟨rfl, rfl, HP2.out, HP3.out⟩, (fun h => by cases h), (fun _ h => by cases h)⟩, hA⟩ | exact .inr ⟨rfl, iff_yes ⟨(fit4 _ _ _ _).2 ⟨rfl, rfl, HP2.out, HP3.out⟩, (fun h => by cases h), (fun _ h => by cases h)⟩, hA⟩
        · have HP3 : Hid (¬ (e ≤ 20)) := hP3
          have hF3 : decide ((e : Int) ≤ 20) = false := by simp; omega
          clear hP3
          go_enter Try.func77, Try.ntmps77
          go_wp2_with fail
          go_ret
          first | exact ⟨false, rfl, iff_no (fun h0 => HP3.out (by have hh := (fit4 _ _ _ _).1 h0.1; exact hh.2.2.2)), hA⟩ | exact .inl ⟨rfl, iff_no (fun h0 => HP3.out (by have hh := (fit4 _ _ _ _).1 h0.1; exact hh.2.2.2)), hA⟩
      · have HP2 : Hid (¬ (s.size = 0)) := hP2
        have hF2 := empty_no hP2
        clear hP2
        go_enter Try.func77, Try.ntmps77
        go_wp2_with fail
        go_ret
        first | exact ⟨false, rfl, iff_no (fun h0 => HP2.out (by have hh := (fit4 _ _ _ _).1 h0.1; exact hh.2.2.1)), hA⟩ | exact .inl ⟨rfl, iff_no (fun h0 => HP2.out (by have hh := (fit4 _ _ _ _).1 h0.1; exact hh.2.2.1)), hA⟩
    · have HP1 : Hid (¬ (n = 0)) := hP1
      have hF1 : (n == 0) = false := by simpa using hP1
      clear hP1
      go_enter Try.func77, Try.ntmps77
      go_wp2_with fail
      go_ret
      first | exact ⟨false, rfl, iff_no (fun h0 => HP1.out (by have hh := (fit4 _ _ _ _).1 h0.1; exact hh.1)), hA⟩ | exact .inl ⟨rfl, iff_no (fun h0 => HP1.out (by have hh := (fit4 _ _ _ _).1 h0.1; exact hh.1)), hA⟩
  · have HP0 : Hid (¬ (c = 0)) := hP0
    have hF0 : (0 : Int) < (c : Int) := by omega
    clear hP0
    go_enter Try.func77, Try.ntmps77
    go_wp2_with fail
    go_ret
    first | exact ⟨false, rfl, iff_no (fun h0 => HP0.out (by have hh := (fit4 _ _ _ _).1 h0.1; exact hh.2.1)), hA⟩ | exact .inl ⟨rfl, iff_no (fun h0 => HP0.out (by have hh := (fit4 _ _ _ _).1 h0.1; exact hh.2.1)), hA⟩

set_option maxHeartbeats 2000000 in
theorem specFit_false_5 (n : Int) (s : ByteArray) (a3 : Option Addr) (e c3 : Nat) (a4 : Option Addr) (c c4 : Nat) (w : World) (hs : s.size ≤ 9223372036854775807) (he : e ≤ 9223372036854775807) (hc : c ≤ 9223372036854775807) :
    Calls Try.prog 77 #[.agg #[.int .i64 5, .int .i64 n, .string s, .slice a3 e c3, .slice a4 c c4], .bool false] w fun r w' => ∃ b : Bool, r = .returned (.bool b) ∧ Hid (b = true ↔ ShX false 5 n s e c) ∧ Below w.heap.size w w' := by
  have hA : Below w.heap.size w (w.alloc (.cells #[.int .i64 5, .int .i64 n, .string s, .slice a3 e c3, .slice a4 c c4] 27)) := (Below.refl _ _).alloc (Nat.le_refl _) _
  by_cases hP0 : c = 0
  · subst hP0
    by_cases hP1 : n = 0
    · subst hP1
      by_cases hP2 : s.size = 0
      · have HP2 : Hid (s.size = 0) := hP2
        have hF2 := (empty_iff s).2 hP2
        clear hP2
        by_cases hP3 : e ≤ 20
        · have HP3 : Hid (e ≤ 20) := hP3
          have hF3 : decide ((e : Int) ≤ 20) = true := by simp; omega
          clear hP3
          go_enter Try.func77, Try.ntmps77
          go_wp2_with fail
          go_ret
          first | exact ⟨true, rfl, iff_yes ⟨(fit5 _ _ _ _).2 ⟨rfl, rfl, HP2.out, HP3.out⟩, (fun h => by cases h), (fun _ h => by cases h)⟩, hA⟩ | exact .inr ⟨rfl, iff_yes ⟨(fit5 _ _ _ _).2 ⟨rfl, rfl, HP2.out, HP3.out⟩, (fun h => by cases h), (fun _ h => by cases h)⟩, hA⟩
        · have HP3 : Hid (¬ (e ≤ 20)) := hP3
          have hF3 : decide ((e : Int) ≤ 20) = false := by simp; omega
          clear hP3
          go_enter Try.func77, Try.ntmps77
          go_wp2_with fail
          go_ret
          first | exact ⟨false, rfl, iff_no (fun h0 => HP3.out (by have hh := (fit5 _ _ _ _).1 h0.1; exact hh.2.2.2)), hA⟩ | exact .inl ⟨rfl, iff_no (fun h0 => HP3.out (by have hh := (fit5 _ _ _ _).1 h0.1; exact hh.2.2.2)), hA⟩
      · have HP2 : Hid (¬ (s.size = 0)) := hP2
        have hF2 := empty_no hP2
        clear hP2
        go_enter Try.func77, Try.ntmps77
        go_wp2_with fail
        go_ret
        first | exact ⟨false, rfl, iff_no (fun h0 => HP2.out (by have hh := (fit5 _ _ _ _).1 h0.1; exact hh.2.2.1)), hA⟩ | exact .inl ⟨rfl, iff_no (fun h0 => HP2.out (by have hh := (fit5 _ _ _ _).1 h0.1; exact hh.2.2.1)), hA⟩
    · have HP1 : Hid (¬ (n = 0)) := hP1
      have hF1 : (n == 0) = false := by simpa using hP1
      clear hP1
      go_enter Try.func77, Try.ntmps77
      go_wp2_with fail
      go_ret
      first | exact ⟨false, rfl, iff_no (fun h0 => HP1.out (by have hh := (fit5 _ _ _ _).1 h0.1; exact hh.1)), hA⟩ | exact .inl ⟨rfl, iff_no (fun h0 => HP1.out (by have hh := (fit5 _ _ _ _).1 h0.1; exact hh.1)), hA⟩
  · have HP0 : Hid (¬ (c = 0)) := hP0
    have hF0 : (0 : Int) < (c : Int) := by omega
    clear hP0
    go_enter Try.func77, Try.ntmps77
    go_wp2_with fail
    go_ret
    first | exact ⟨false, rfl, iff_no (fun h0 => HP0.out (by have hh := (fit5 _ _ _ _).1 h0.1; exact hh.2.1)), hA⟩ | exact .inl ⟨rfl, iff_no (fun h0 => HP0.out (by have hh := (fit5 _ _ _ _).1 h0.1; exact hh.2.1)), hA⟩

set_option maxHeartbeats 2000000 in
theorem specFit_false_6 (n : Int) (s : ByteArray) (a3 : Option Addr) (e c3 : Nat) (a4 : Option Addr) (c c4 : Nat) (w : World) (hs : s.size ≤ 9223372036854775807) (he : e ≤ 9223372036854775807) (hc : c ≤ 9223372036854775807) :
    Calls Try.prog 77 #[.agg #[.int .i64 6, .int .i64 n, .string s, .slice a3 e c3, .slice a4 c c4], .bool false] w fun r w' => ∃ b : Bool, r = .returned (.bool b) ∧ Hid (b = true ↔ ShX false 6 n s e c) ∧ Below w.heap.size w w' := by
  have hA : Below w.heap.size w (w.alloc (.cells #[.int .i64 6, .int .i64 n, .string s, .slice a3 e c3, .slice a4 c c4] 27)) := (Below.refl _ _).alloc (Nat.le_refl _) _
  by_cases hP0 : c = 0
  · subst hP0
    by_cases hP1 : n = 0
    · subst hP1
      by_cases hP2 : s.size = 0
      · have HP2 : Hid (s.size = 0) := hP2
        have hF2 := (empty_iff s).2 hP2
        clear hP2
        by_cases hP3 : 2 ≤ e ∧ e ≤ 6
        · have HP3 : Hid (2 ≤ e ∧ e ≤ 6) := hP3
          have hF3 : decide ((2 : Int) ≤ (e : Int) ∧ (e : Int) ≤ 6) = true := decide_eq_true (by omega)
          clear hP3
          go_enter Try.func77, Try.ntmps77
          go_wp2_with fail
          refine (specIn_any (e : Int) 2 6 _).mono ?_
          rintro _ _ ⟨rfl, rfl⟩
          go_wp2_with fail
          go_ret
          first | exact ⟨true, rfl, iff_yes ⟨(fit6 _ _ _ _).2 ⟨rfl, rfl, HP2.out, HP3.out.1, HP3.out.2⟩, (fun h => by cases h), (fun _ h => by cases h)⟩, hA⟩ | exact .inr ⟨rfl, iff_yes ⟨(fit6 _ _ _ _).2 ⟨rfl, rfl, HP2.out, HP3.out.1, HP3.out.2⟩, (fun h => by cases h), (fun _ h => by cases h)⟩, hA⟩
        · have HP3 : Hid (¬ (2 ≤ e ∧ e ≤ 6)) := hP3
          have hF3 : decide ((2 : Int) ≤ (e : Int) ∧ (e : Int) ≤ 6) = false := decide_eq_false (by omega)
          clear hP3
          go_enter Try.func77, Try.ntmps77
          go_wp2_with fail
          refine (specIn_any (e : Int) 2 6 _).mono ?_
          rintro _ _ ⟨rfl, rfl⟩
          go_wp2_with fail
          go_ret
          first | exact ⟨false, rfl, iff_no (fun h0 => HP3.out (by have hh := (fit6 _ _ _ _).1 h0.1; exact ⟨hh.2.2.2.1, hh.2.2.2.2⟩)), hA⟩ | exact .inl ⟨rfl, iff_no (fun h0 => HP3.out (by have hh := (fit6 _ _ _ _).1 h0.1; exact ⟨hh.2.2.2.1, hh.2.2.2.2⟩)), hA⟩
      · have HP2 : Hid (¬ (s.size = 0)) := hP2
        have hF2 := empty_no hP2
        clear hP2
        go_enter Try.func77, Try.ntmps77
        go_wp2_with fail
        go_ret
        first | exact ⟨false, rfl, iff_no (fun h0 => HP2.out (by have hh := (fit6 _ _ _ _).1 h0.1; exact hh.2.2.1)), hA⟩ | exact .inl ⟨rfl, iff_no (fun h0 => HP2.out (by have hh := (fit6 _ _ _ _).1 h0.1; exact hh.2.2.1)), hA⟩
    · have HP1 : Hid (¬ (n = 0)) := hP1
      have hF1 : (n == 0) = false := by simpa using hP1
      clear hP1
      go_enter Try.func77, Try.ntmps77
      go_wp2_with fail
      go_ret
      first | exact ⟨false, rfl, iff_no (fun h0 => HP1.out (by have hh := (fit6 _ _ _ _).1 h0.1; exact hh.1)), hA⟩ | exact .inl ⟨rfl, iff_no (fun h0 => HP1.out (by have hh := (fit6 _ _ _ _).1 h0.1; exact hh.1)), hA⟩
  · have HP0 : Hid (¬ (c = 0)) := hP0
    have hF0 : (0 : Int) < (c : Int) := by omega
    clear hP0
    go_enter Try.func77, Try.ntmps77
    go_wp2_with fail
    go_ret
    first | exact ⟨false, rfl, iff_no (fun h0 => HP0.out (by have hh := (fit6 _ _ _ _).1 h0.1; exact hh.2.1)), hA⟩ | exact .inl ⟨rfl, iff_no (fun h0 => HP0.out (by have hh := (fit6 _ _ _ _).1 h0.1; exact hh.2.1)), hA⟩

set_option maxHeartbeats 2000000 in
theorem specFit_false_7 (n : Int) (s : ByteArray) (a3 : Option Addr) (e c3 : Nat) (a4 : Option Addr) (c c4 : Nat) (w : World) (hs : s.size ≤ 9223372036854775807) (he : e ≤ 9223372036854775807) (hc : c ≤ 9223372036854775807) :
    Calls Try.prog 77 #[.agg #[.int .i64 7, .int .i64 n, .string s, .slice a3 e c3, .slice a4 c c4], .bool false] w fun r w' => ∃ b : Bool, r = .returned (.bool b) ∧ Hid (b = true ↔ ShX false 7 n s e c) ∧ Below w.heap.size w w' := by
  have hA : Below w.heap.size w (w.alloc (.cells #[.int .i64 7, .int .i64 n, .string s, .slice a3 e c3, .slice a4 c c4] 27)) := (Below.refl _ _).alloc (Nat.le_refl _) _
  by_cases hP0 : c = 0
  · subst hP0
    by_cases hP1 : n = 0
    · subst hP1
      by_cases hP2 : OpP s
      · have HP2 : Hid (OpP s) := hP2
        clear hP2
        by_cases hP3 : e = 2
        · have HP3 : Hid (e = 2) := hP3
          have hF3 : ((e : Int) == 2) = true := by simp; omega
          clear hP3
          go_enter Try.func77, Try.ntmps77
          go_wp2_with fail
          refine (l4Op_any s _).mono ?_
          rintro _ _ ⟨b, rfl, hb, rfl⟩
          obtain rfl : b = true := hb.out.2 HP2.out
          clear hb
          go_wp2_with fail
          go_ret
          first | exact ⟨true, rfl, iff_yes ⟨(fit7 _ _ _ _).2 ⟨rfl, rfl, HP2.out, HP3.out⟩, (fun h => by cases h), (fun _ h => by cases h)⟩, hA⟩ | exact .inr ⟨rfl, iff_yes ⟨(fit7 _ _ _ _).2 ⟨rfl, rfl, HP2.out, HP3.out⟩, (fun h => by cases h), (fun _ h => by cases h)⟩, hA⟩
        · have HP3 : Hid (¬ (e = 2)) := hP3
          have hF3 : ((e : Int) == 2) = false := by simp; omega
          clear hP3
          go_enter Try.func77, Try.ntmps77
          go_wp2_with fail
          refine (l4Op_any s _).mono ?_
          rintro _ _ ⟨b, rfl, hb, rfl⟩
          obtain rfl : b = true := hb.out.2 HP2.out
          clear hb
          go_wp2_with fail
          go_ret
          first | exact ⟨false, rfl, iff_no (fun h0 => HP3.out (by have hh := (fit7 _ _ _ _).1 h0.1; exact hh.2.2.2)), hA⟩ | exact .inl ⟨rfl, iff_no (fun h0 => HP3.out (by have hh := (fit7 _ _ _ _).1 h0.1; exact hh.2.2.2)), hA⟩
      · have HP2 : Hid (¬ (OpP s)) := hP2
        clear hP2
        go_enter Try.func77, Try.ntmps77
        go_wp2_with fail
        refine (l4Op_any s _).mono ?_
        rintro _ _ ⟨b, rfl, hb, rfl⟩
        obtain rfl : b = false := by cases b; exact rfl; exact absurd (hb.out.1 rfl) HP2.out
        clear hb
        go_wp2_with fail
        go_ret
        first | exact ⟨false, rfl, iff_no (fun h0 => HP2.out (by have hh := (fit7 _ _ _ _).1 h0.1; exact hh.2.2.1)), hA⟩ | exact .inl ⟨rfl, iff_no (fun h0 => HP2.out (by have hh := (fit7 _ _ _ _).1 h0.1; exact hh.2.2.1)), hA⟩
    · have HP1 : Hid (¬ (n = 0)) := hP1
      have hF1 : (n == 0) = false := by simpa using hP1
      clear hP1
      go_enter Try.func77, Try.ntmps77
      go_wp2_with fail
      go_ret
      first | exact ⟨false, rfl, iff_no (fun h0 => HP1.out (by have hh := (fit7 _ _ _ _).1 h0.1; exact hh.1)), hA⟩ | exact .inl ⟨rfl, iff_no (fun h0 => HP1.out (by have hh := (fit7 _ _ _ _).1 h0.1; exact hh.1)), hA⟩
  · have HP0 : Hid (¬ (c = 0)) := hP0
    have hF0 : (0 : Int) < (c : Int) := by omega
    clear hP0
    go_enter Try.func77, Try.ntmps77
    go_wp2_with fail
    go_ret
    first | exact ⟨false, rfl, iff_no (fun h0 => HP0.out (by have hh := (fit7 _ _ _ _).1 h0.1; exact hh.2.1)), hA⟩ | exact .inl ⟨rfl, iff_no (fun h0 => HP0.out (by have hh := (fit7 _ _ _ _).1 h0.1; exact hh.2.1)), hA⟩

set_option maxHeartbeats 2000000 in
theorem specFit_false_8 (n : Int) (s : ByteArray) (a3 : Option Addr) (e c3 : Nat) (a4 : Option Addr) (c c4 : Nat) (w : World) (hs : s.size ≤ 9223372036854775807) (he : e ≤ 9223372036854775807) (hc : c ≤ 9223372036854775807) :
    Calls Try.prog 77 #[.agg #[.int .i64 8, .int .i64 n, .string s, .slice a3 e c3, .slice a4 c c4], .bool false] w fun r w' => ∃ b : Bool, r = .returned (.bool b) ∧ Hid (b = true ↔ ShX false 8 n s e c) ∧ Below w.heap.size w w' := by
  have hA : Below w.heap.size w (w.alloc (.cells #[.int .i64 8, .int .i64 n, .string s, .slice a3 e c3, .slice a4 c c4] 27)) := (Below.refl _ _).alloc (Nat.le_refl _) _
  by_cases hP0 : c = 0
  · subst hP0
    by_cases hP1 : n = 0
    · subst hP1
      by_cases hP2 : AtomP s ∧ ¬ Wrd s
      · have HP2 : Hid (AtomP s ∧ ¬ Wrd s) := hP2
        clear hP2
        by_cases hP3 : e ≤ 4
        · have HP3 : Hid (e ≤ 4) := hP3
          have hF3 : decide ((e : Int) ≤ 4) = true := by simp; omega
          clear hP3
          go_enter Try.func77, Try.ntmps77
          go_wp2_with fail
          refine (l4Atom_any s _ hs).mono ?_
          rintro _ wv ⟨b, rfl, hb, hwv⟩
          have hA := hA.trans (hwv.mono hA.size)
          obtain rfl : b = true := hb.out.2 HP2.out
          clear hb hwv
          go_wp2_with fail
          go_ret
          first | exact ⟨true, rfl, iff_yes ⟨(fit8 _ _ _ _).2 ⟨rfl, rfl, HP2.out, HP3.out⟩, (fun h => by cases h), (fun _ h => by cases h)⟩, hA⟩ | exact .inr ⟨rfl, iff_yes ⟨(fit8 _ _ _ _).2 ⟨rfl, rfl, HP2.out, HP3.out⟩, (fun h => by cases h), (fun _ h => by cases h)⟩, hA⟩
        · have HP3 : Hid (¬ (e ≤ 4)) := hP3
          have hF3 : decide ((e : Int) ≤ 4) = false := by simp; omega
          clear hP3
          go_enter Try.func77, Try.ntmps77
          go_wp2_with fail
          refine (l4Atom_any s _ hs).mono ?_
          rintro _ wv ⟨b, rfl, hb, hwv⟩
          have hA := hA.trans (hwv.mono hA.size)
          obtain rfl : b = true := hb.out.2 HP2.out
          clear hb hwv
          go_wp2_with fail
          go_ret
          first | exact ⟨false, rfl, iff_no (fun h0 => HP3.out (by have hh := (fit8 _ _ _ _).1 h0.1; exact hh.2.2.2)), hA⟩ | exact .inl ⟨rfl, iff_no (fun h0 => HP3.out (by have hh := (fit8 _ _ _ _).1 h0.1; exact hh.2.2.2)), hA⟩
      · have HP2 : Hid (¬ (AtomP s ∧ ¬ Wrd s)) := hP2
        clear hP2
        go_enter Try.func77, Try.ntmps77
        go_wp2_with fail
        refine (l4Atom_any s _ hs).mono ?_
        rintro _ wv ⟨b, rfl, hb, hwv⟩
        have hA := hA.trans (hwv.mono hA.size)
        obtain rfl : b = false := by cases b; exact rfl; exact absurd (hb.out.1 rfl) HP2.out
        clear hb hwv
        go_wp2_with fail
        go_ret
        first | exact ⟨false, rfl, iff_no (fun h0 => HP2.out (by have hh := (fit8 _ _ _ _).1 h0.1; exact hh.2.2.1)), hA⟩ | exact .inl ⟨rfl, iff_no (fun h0 => HP2.out (by have hh := (fit8 _ _ _ _).1 h0.1; exact hh.2.2.1)), hA⟩
    · have HP1 : Hid (¬ (n = 0)) := hP1
      have hF1 : (n == 0) = false := by simpa using hP1
      clear hP1
      go_enter Try.func77, Try.ntmps77
      go_wp2_with fail
      go_ret
      first | exact ⟨false, rfl, iff_no (fun h0 => HP1.out (by have hh := (fit8 _ _ _ _).1 h0.1; exact hh.1)), hA⟩ | exact .inl ⟨rfl, iff_no (fun h0 => HP1.out (by have hh := (fit8 _ _ _ _).1 h0.1; exact hh.1)), hA⟩
  · have HP0 : Hid (¬ (c = 0)) := hP0
    have hF0 : (0 : Int) < (c : Int) := by omega
    clear hP0
    go_enter Try.func77, Try.ntmps77
    go_wp2_with fail
    go_ret
    first | exact ⟨false, rfl, iff_no (fun h0 => HP0.out (by have hh := (fit8 _ _ _ _).1 h0.1; exact hh.2.1)), hA⟩ | exact .inl ⟨rfl, iff_no (fun h0 => HP0.out (by have hh := (fit8 _ _ _ _).1 h0.1; exact hh.2.1)), hA⟩

set_option maxHeartbeats 2000000 in
theorem specFit_false_9 (n : Int) (s : ByteArray) (a3 : Option Addr) (e c3 : Nat) (a4 : Option Addr) (c c4 : Nat) (w : World) (hs : s.size ≤ 9223372036854775807) (he : e ≤ 9223372036854775807) (hc : c ≤ 9223372036854775807) :
    Calls Try.prog 77 #[.agg #[.int .i64 9, .int .i64 n, .string s, .slice a3 e c3, .slice a4 c c4], .bool false] w fun r w' => ∃ b : Bool, r = .returned (.bool b) ∧ Hid (b = true ↔ ShX false 9 n s e c) ∧ Below w.heap.size w w' := by
  have hA : Below w.heap.size w (w.alloc (.cells #[.int .i64 9, .int .i64 n, .string s, .slice a3 e c3, .slice a4 c c4] 27)) := (Below.refl _ _).alloc (Nat.le_refl _) _
  by_cases hP0 : n = 0
  · subst hP0
    by_cases hP1 : s.size = 0
    · have HP1 : Hid (s.size = 0) := hP1
      have hF1 := (empty_iff s).2 hP1
      clear hP1
      by_cases hP2 : e = 1
      · have HP2 : Hid (e = 1) := hP2
        have hF2 : ((e : Int) == 1) = true := by simp; omega
        clear hP2
        by_cases hP3 : 1 ≤ c ∧ c ≤ 6
        · have HP3 : Hid (1 ≤ c ∧ c ≤ 6) := hP3
          have hF3 : decide ((1 : Int) ≤ (c : Int) ∧ (c : Int) ≤ 6) = true := decide_eq_true (by omega)
          clear hP3
          go_enter Try.func77, Try.ntmps77
          go_wp2_with fail
          refine (specIn_any (c : Int) 1 6 _).mono ?_
          rintro _ _ ⟨rfl, rfl⟩
          go_wp2_with fail
          go_ret
          first | exact ⟨true, rfl, iff_yes ⟨(fit9 _ _ _ _).2 ⟨rfl, HP1.out, HP2.out, HP3.out.1, HP3.out.2⟩, (fun h => by cases h), (fun _ h => by cases h)⟩, hA⟩ | exact .inr ⟨rfl, iff_yes ⟨(fit9 _ _ _ _).2 ⟨rfl, HP1.out, HP2.out, HP3.out.1, HP3.out.2⟩, (fun h => by cases h), (fun _ h => by cases h)⟩, hA⟩
        · have HP3 : Hid (¬ (1 ≤ c ∧ c ≤ 6)) := hP3
          have hF3 : decide ((1 : Int) ≤ (c : Int) ∧ (c : Int) ≤ 6) = false := decide_eq_false (by omega)
          clear hP3
          go_enter Try.func77, Try.ntmps77
          go_wp2_with fail
          refine (specIn_any (c : Int) 1 6 _).mono ?_
          rintro _ _ ⟨rfl, rfl⟩
          go_wp2_with fail
          go_ret
          first | exact ⟨false, rfl, iff_no (fun h0 => HP3.out (by have hh := (fit9 _ _ _ _).1 h0.1; exact ⟨hh.2.2.2.1, hh.2.2.2.2⟩)), hA⟩ | exact .inl ⟨rfl, iff_no (fun h0 => HP3.out (by have hh := (fit9 _ _ _ _).1 h0.1; exact ⟨hh.2.2.2.1, hh.2.2.2.2⟩)), hA⟩
      · have HP2 : Hid (¬ (e = 1)) := hP2
        have hF2 : ((e : Int) == 1) = false := by simp; omega
        clear hP2
        go_enter Try.func77, Try.ntmps77
        go_wp2_with fail
        go_ret
        first | exact ⟨false, rfl, iff_no (fun h0 => HP2.out (by have hh := (fit9 _ _ _ _).1 h0.1; exact hh.2.2.1)), hA⟩ | exact .inl ⟨rfl, iff_no (fun h0 => HP2.out (by have hh := (fit9 _ _ _ _).1 h0.1; exact hh.2.2.1)), hA⟩
    · have HP1 : Hid (¬ (s.size = 0)) := hP1
      have hF1 := empty_no hP1
      clear hP1
      go_enter Try.func77, Try.ntmps77
      go_wp2_with fail
      go_ret
      first | exact ⟨false, rfl, iff_no (fun h0 => HP1.out (by have hh := (fit9 _ _ _ _).1 h0.1; exact hh.2.1)), hA⟩ | exact .inl ⟨rfl, iff_no (fun h0 => HP1.out (by have hh := (fit9 _ _ _ _).1 h0.1; exact hh.2.1)), hA⟩
  · have HP0 : Hid (¬ (n = 0)) := hP0
    have hF0 : (n == 0) = false := by simpa using hP0
    clear hP0
    go_enter Try.func77, Try.ntmps77
    go_wp2_with fail
    go_ret
    first | exact ⟨false, rfl, iff_no (fun h0 => HP0.out (by have hh := (fit9 _ _ _ _).1 h0.1; exact hh.1)), hA⟩ | exact .inl ⟨rfl, iff_no (fun h0 => HP0.out (by have hh := (fit9 _ _ _ _).1 h0.1; exact hh.1)), hA⟩

set_option maxHeartbeats 2000000 in
theorem specFit_true_1 (n : Int) (s : ByteArray) (a3 : Option Addr) (e c3 : Nat) (a4 : Option Addr) (c c4 : Nat) (w : World) (hs : s.size ≤ 9223372036854775807) (he : e ≤ 9223372036854775807) (hc : c ≤ 9223372036854775807) :
    Calls Try.prog 77 #[.agg #[.int .i64 1, .int .i64 n, .string s, .slice a3 e c3, .slice a4 c c4], .bool true] w fun r w' => ∃ b : Bool, r = .returned (.bool b) ∧ Hid (b = true ↔ ShX true 1 n s e c) ∧ Below w.heap.size w w' := by
  have hA : Below w.heap.size w (w.alloc (.cells #[.int .i64 1, .int .i64 n, .string s, .slice a3 e c3, .slice a4 c c4] 27)) := (Below.refl _ _).alloc (Nat.le_refl _) _
  by_cases hP0 : c = 0
  · subst hP0
    by_cases hP1 : 0 ≤ n ∧ n ≤ 1000000000000
    · have HP1 : Hid (0 ≤ n ∧ n ≤ 1000000000000) := hP1
      have hF1 : decide ((0 : Int) ≤ n ∧ n ≤ 1000000000000) = true := decide_eq_true hP1
      clear hP1
      by_cases hP2 : s.size = 0
      · have HP2 : Hid (s.size = 0) := hP2
        have hF2 := (empty_iff s).2 hP2
        clear hP2
        by_cases hP3 : e = 0
        · have HP3 : Hid (e = 0) := hP3
          have hF3 : ((e : Int) == 0) = true := by simp [hP3]
          clear hP3
          go_enter Try.func77, Try.ntmps77
          go_wp2_with fail
          refine (specIn_any n 0 1000000000000 _).mono ?_
          rintro _ _ ⟨rfl, rfl⟩
          go_wp2_with fail
          go_ret
          first | exact ⟨true, rfl, iff_yes ⟨(fit1 _ _ _ _).2 ⟨rfl, HP1.out.1, HP1.out.2, HP2.out, HP3.out⟩, fun _ => by decide, (fun h => by cases h)⟩, hA⟩ | exact .inr ⟨rfl, iff_yes ⟨(fit1 _ _ _ _).2 ⟨rfl, HP1.out.1, HP1.out.2, HP2.out, HP3.out⟩, (fun _ => by decide), (fun h => by cases h)⟩, hA⟩
        · have HP3 : Hid (¬ (e = 0)) := hP3
          have hF3 : ((e : Int) == 0) = false := by simp [hP3]
          clear hP3
          go_enter Try.func77, Try.ntmps77
          go_wp2_with fail
          refine (specIn_any n 0 1000000000000 _).mono ?_
          rintro _ _ ⟨rfl, rfl⟩
          go_wp2_with fail
          go_ret
          first | exact ⟨false, rfl, iff_no (fun h0 => HP3.out (by have hh := (fit1 _ _ _ _).1 h0.1; exact hh.2.2.2.2)), hA⟩ | exact .inl ⟨rfl, iff_no (fun h0 => HP3.out (by have hh := (fit1 _ _ _ _).1 h0.1; exact hh.2.2.2.2)), hA⟩
      · have HP2 : Hid (¬ (s.size = 0)) := hP2
        have hF2 := empty_no hP2
        clear hP2
        go_enter Try.func77, Try.ntmps77
        go_wp2_with fail
        refine (specIn_any n 0 1000000000000 _).mono ?_
        rintro _ _ ⟨rfl, rfl⟩
        go_wp2_with fail
        go_ret
        first | exact ⟨false, rfl, iff_no (fun h0 => HP2.out (by have hh := (fit1 _ _ _ _).1 h0.1; exact hh.2.2.2.1)), hA⟩ | exact .inl ⟨rfl, iff_no (fun h0 => HP2.out (by have hh := (fit1 _ _ _ _).1 h0.1; exact hh.2.2.2.1)), hA⟩
    · have HP1 : Hid (¬ (0 ≤ n ∧ n ≤ 1000000000000)) := hP1
      have hF1 : decide ((0 : Int) ≤ n ∧ n ≤ 1000000000000) = false := decide_eq_false hP1
      clear hP1
      go_enter Try.func77, Try.ntmps77
      go_wp2_with fail
      refine (specIn_any n 0 1000000000000 _).mono ?_
      rintro _ _ ⟨rfl, rfl⟩
      go_wp2_with fail
      go_ret
      first | exact ⟨false, rfl, iff_no (fun h0 => HP1.out (by have hh := (fit1 _ _ _ _).1 h0.1; exact ⟨hh.2.1, hh.2.2.1⟩)), hA⟩ | exact .inl ⟨rfl, iff_no (fun h0 => HP1.out (by have hh := (fit1 _ _ _ _).1 h0.1; exact ⟨hh.2.1, hh.2.2.1⟩)), hA⟩
  · have HP0 : Hid (¬ (c = 0)) := hP0
    have hF0 : (0 : Int) < (c : Int) := by omega
    clear hP0
    go_enter Try.func77, Try.ntmps77
    go_wp2_with fail
    go_ret
    first | exact ⟨false, rfl, iff_no (fun h0 => HP0.out (by have hh := (fit1 _ _ _ _).1 h0.1; exact hh.1)), hA⟩ | exact .inl ⟨rfl, iff_no (fun h0 => HP0.out (by have hh := (fit1 _ _ _ _).1 h0.1; exact hh.1)), hA⟩

set_option maxHeartbeats 2000000 in
theorem specFit_true_2 (n : Int) (s : ByteArray) (a3 : Option Addr) (e c3 : Nat) (a4 : Option Addr) (c c4 : Nat) (w : World) (hs : s.size ≤ 9223372036854775807) (he : e ≤ 9223372036854775807) (hc : c ≤ 9223372036854775807) :
    Calls Try.prog 77 #[.agg #[.int .i64 2, .int .i64 n, .string s, .slice a3 e c3, .slice a4 c c4], .bool true] w fun r w' => ∃ b : Bool, r = .returned (.bool b) ∧ Hid (b = true ↔ ShX true 2 n s e c) ∧ Below w.heap.size w w' := by
  have hA : Below w.heap.size w (w.alloc (.cells #[.int .i64 2, .int .i64 n, .string s, .slice a3 e c3, .slice a4 c c4] 27)) := (Below.refl _ _).alloc (Nat.le_refl _) _
  by_cases hP0 : c = 0
  · subst hP0
    by_cases hP1 : n = 0
    · subst hP1
      by_cases hP2 : AtomP s ∧ ¬ Wrd s
      · have HP2 : Hid (AtomP s ∧ ¬ Wrd s) := hP2
        clear hP2
        by_cases hP3 : e = 0
        · have HP3 : Hid (e = 0) := hP3
          have hF3 : ((e : Int) == 0) = true := by simp [hP3]
          clear hP3
          go_enter Try.func77, Try.ntmps77
          go_wp2_with fail
          refine (l4Atom_any s _ hs).mono ?_
          rintro _ wv ⟨b, rfl, hb, hwv⟩
          have hA := hA.trans (hwv.mono hA.size)
          obtain rfl : b = true := hb.out.2 HP2.out
          clear hb hwv
          go_wp2_with fail
          go_ret
          first | exact ⟨true, rfl, iff_yes ⟨(fit2 _ _ _ _).2 ⟨rfl, rfl, HP2.out, HP3.out⟩, fun _ => by decide, (fun h => by cases h)⟩, hA⟩ | exact .inr ⟨rfl, iff_yes ⟨(fit2 _ _ _ _).2 ⟨rfl, rfl, HP2.out, HP3.out⟩, (fun _ => by decide), (fun h => by cases h)⟩, hA⟩
        · have HP3 : Hid (¬ (e = 0)) := hP3
          have hF3 : ((e : Int) == 0) = false := by simp [hP3]
          clear hP3
          go_enter Try.func77, Try.ntmps77
          go_wp2_with fail
          refine (l4Atom_any s _ hs).mono ?_
          rintro _ wv ⟨b, rfl, hb, hwv⟩
          have hA := hA.trans (hwv.mono hA.size)
          obtain rfl : b = true := hb.out.2 HP2.out
          clear hb hwv
          go_wp2_with fail
          go_ret
          first | exact ⟨false, rfl, iff_no (fun h0 => HP3.out (by have hh := (fit2 _ _ _ _).1 h0.1; exact hh.2.2.2)), hA⟩ | exact .inl ⟨rfl, iff_no (fun h0 => HP3.out (by have hh := (fit2 _ _ _ _).1 h0.1; exact hh.2.2.2)), hA⟩
      · have HP2 : Hid (¬ (AtomP s ∧ ¬ Wrd s)) := hP2
        clear hP2
        go_enter Try.func77, Try.ntmps77
        go_wp2_with fail
        refine (l4Atom_any s _ hs).mono ?_
        rintro _ wv ⟨b, rfl, hb, hwv⟩
        have hA := hA.trans (hwv.mono hA.size)
        obtain rfl : b = false := by cases b; exact rfl; exact absurd (hb.out.1 rfl) HP2.out
        clear hb hwv
        go_wp2_with fail
        go_ret
        first | exact ⟨false, rfl, iff_no (fun h0 => HP2.out (by have hh := (fit2 _ _ _ _).1 h0.1; exact hh.2.2.1)), hA⟩ | exact .inl ⟨rfl, iff_no (fun h0 => HP2.out (by have hh := (fit2 _ _ _ _).1 h0.1; exact hh.2.2.1)), hA⟩
    · have HP1 : Hid (¬ (n = 0)) := hP1
      have hF1 : (n == 0) = false := by simpa using hP1
      clear hP1
      go_enter Try.func77, Try.ntmps77
      go_wp2_with fail
      go_ret
      first | exact ⟨false, rfl, iff_no (fun h0 => HP1.out (by have hh := (fit2 _ _ _ _).1 h0.1; exact hh.1)), hA⟩ | exact .inl ⟨rfl, iff_no (fun h0 => HP1.out (by have hh := (fit2 _ _ _ _).1 h0.1; exact hh.1)), hA⟩
  · have HP0 : Hid (¬ (c = 0)) := hP0
    have hF0 : (0 : Int) < (c : Int) := by omega
    clear hP0
    go_enter Try.func77, Try.ntmps77
    go_wp2_with fail
    go_ret
    first | exact ⟨false, rfl, iff_no (fun h0 => HP0.out (by have hh := (fit2 _ _ _ _).1 h0.1; exact hh.2.1)), hA⟩ | exact .inl ⟨rfl, iff_no (fun h0 => HP0.out (by have hh := (fit2 _ _ _ _).1 h0.1; exact hh.2.1)), hA⟩

set_option maxHeartbeats 2000000 in
theorem specFit_true_3 (n : Int) (s : ByteArray) (a3 : Option Addr) (e c3 : Nat) (a4 : Option Addr) (c c4 : Nat) (w : World) (hs : s.size ≤ 9223372036854775807) (he : e ≤ 9223372036854775807) (hc : c ≤ 9223372036854775807) :
    Calls Try.prog 77 #[.agg #[.int .i64 3, .int .i64 n, .string s, .slice a3 e c3, .slice a4 c c4], .bool true] w fun r w' => ∃ b : Bool, r = .returned (.bool b) ∧ Hid (b = true ↔ ShX true 3 n s e c) ∧ Below w.heap.size w w' := by
  have hA : Below w.heap.size w (w.alloc (.cells #[.int .i64 3, .int .i64 n, .string s, .slice a3 e c3, .slice a4 c c4] 27)) := (Below.refl _ _).alloc (Nat.le_refl _) _
  by_cases hP0 : c = 0
  · subst hP0
    by_cases hP1 : n = 0
    · subst hP1
      by_cases hP2 : NameP s
      · have HP2 : Hid (NameP s) := hP2
        clear hP2
        by_cases hP3 : e = 0
        · have HP3 : Hid (e = 0) := hP3
          have hF3 : ((e : Int) == 0) = true := by simp [hP3]
          clear hP3
          go_enter Try.func77, Try.ntmps77
          go_wp2_with fail
          refine (specVarOk_any s _ hs).mono ?_
          rintro _ _ ⟨b, rfl, hb, rfl⟩
          obtain rfl : b = true := hb.2 HP2.out
          clear hb
          go_wp2_with fail
          go_ret
          first | exact ⟨true, rfl, iff_yes ⟨(fit3 _ _ _ _).2 ⟨rfl, rfl, HP2.out, HP3.out⟩, fun _ => by decide, (fun h => by cases h)⟩, hA⟩ | exact .inr ⟨rfl, iff_yes ⟨(fit3 _ _ _ _).2 ⟨rfl, rfl, HP2.out, HP3.out⟩, (fun _ => by decide), (fun h => by cases h)⟩, hA⟩
        · have HP3 : Hid (¬ (e = 0)) := hP3
          have hF3 : ((e : Int) == 0) = false := by simp [hP3]
          clear hP3
          go_enter Try.func77, Try.ntmps77
          go_wp2_with fail
          refine (specVarOk_any s _ hs).mono ?_
          rintro _ _ ⟨b, rfl, hb, rfl⟩
          obtain rfl : b = true := hb.2 HP2.out
          clear hb
          go_wp2_with fail
          go_ret
          first | exact ⟨false, rfl, iff_no (fun h0 => HP3.out (by have hh := (fit3 _ _ _ _).1 h0.1; exact hh.2.2.2)), hA⟩ | exact .inl ⟨rfl, iff_no (fun h0 => HP3.out (by have hh := (fit3 _ _ _ _).1 h0.1; exact hh.2.2.2)), hA⟩
      · have HP2 : Hid (¬ (NameP s)) := hP2
        clear hP2
        go_enter Try.func77, Try.ntmps77
        go_wp2_with fail
        refine (specVarOk_any s _ hs).mono ?_
        rintro _ _ ⟨b, rfl, hb, rfl⟩
        obtain rfl : b = false := by cases b; exact rfl; exact absurd (hb.1 rfl) HP2.out
        clear hb
        go_wp2_with fail
        go_ret
        first | exact ⟨false, rfl, iff_no (fun h0 => HP2.out (by have hh := (fit3 _ _ _ _).1 h0.1; exact hh.2.2.1)), hA⟩ | exact .inl ⟨rfl, iff_no (fun h0 => HP2.out (by have hh := (fit3 _ _ _ _).1 h0.1; exact hh.2.2.1)), hA⟩
    · have HP1 : Hid (¬ (n = 0)) := hP1
      have hF1 : (n == 0) = false := by simpa using hP1
      clear hP1
      go_enter Try.func77, Try.ntmps77
      go_wp2_with fail
      go_ret
      first | exact ⟨false, rfl, iff_no (fun h0 => HP1.out (by have hh := (fit3 _ _ _ _).1 h0.1; exact hh.1)), hA⟩ | exact .inl ⟨rfl, iff_no (fun h0 => HP1.out (by have hh := (fit3 _ _ _ _).1 h0.1; exact hh.1)), hA⟩
  · have HP0 : Hid (¬ (c = 0)) := hP0
    have hF0 : (0 : Int) < (c : Int) := by omega
    clear hP0
    go_enter Try.func77, Try.ntmps77
    go_wp2_with fail
    go_ret
    first | exact ⟨false, rfl, iff_no (fun h0 => HP0.out (by have hh := (fit3 _ _ _ _).1 h0.1; exact hh.2.1)), hA⟩ | exact .inl ⟨rfl, iff_no (fun h0 => HP0.out (by have hh := (fit3 _ _ _ _).1 h0.1; exact hh.2.1)), hA⟩

set_option maxHeartbeats 2000000 in
theorem specFit_true_4 (n : Int) (s : ByteArray) (a3 : Option Addr) (e c3 : Nat) (a4 : Option Addr) (c c4 : Nat) (w : World) (hs : s.size ≤ 9223372036854775807) (he : e ≤ 9223372036854775807) (hc : c ≤ 9223372036854775807) :
    Calls Try.prog 77 #[.agg #[.int .i64 4, .int .i64 n, .string s, .slice a3 e c3, .slice a4 c c4], .bool true] w fun r w' => ∃ b : Bool, r = .returned (.bool b) ∧ Hid (b = true ↔ ShX true 4 n s e c) ∧ Below w.heap.size w w' := by
  have hA : Below w.heap.size w (w.alloc (.cells #[.int .i64 4, .int .i64 n, .string s, .slice a3 e c3, .slice a4 c c4] 27)) := (Below.refl _ _).alloc (Nat.le_refl _) _
  by_cases hP0 : c = 0
  · subst hP0
    by_cases hP1 : n = 0
    · subst hP1
      by_cases hP2 : s.size = 0
      · have HP2 : Hid (s.size = 0) := hP2
        have hF2 := (empty_iff s).2 hP2
        clear hP2
        by_cases hP3 : e ≤ 20
        · have HP3 : Hid (e ≤ 20) := hP3
          have hF3 : decide ((e : Int) ≤ 20) = true := by simp; omega
          clear hP3
          go_enter Try.func77, Try.ntmps77
          go_wp2_with fail
          go_ret
          first | exact ⟨true, rfl, iff_yes ⟨(fit4 _ _ _ _).2 ⟨rfl, rfl, HP2.out, HP3.out⟩, fun _ => by decide, (fun h => by cases h)⟩, hA⟩ | exact .inr ⟨rfl, iff_yes ⟨(fit4 _ _ _ _).2 ⟨rfl, rfl, HP2.out, HP3.out⟩, (fun _ => by decide), (fun h => by cases h)⟩, hA⟩
        · have HP3 : Hid (¬ (e ≤ 20)) := hP3
          have hF3 : decide ((e : Int) ≤ 20) = false := by simp; omega
          clear hP3
          go_enter Try.func77, Try.ntmps77
          go_wp2_with fail
          go_ret
          first | exact ⟨false, rfl, iff_no (fun h0 => HP3.out (by have hh := (fit4 _ _ _ _).1 h0.1; exact hh.2.2.2)), hA⟩ | exact .inl ⟨rfl, iff_no (fun h0 => HP3.out (by have hh := (fit4 _ _ _ _).1 h0.1; exact hh.2.2.2)), hA⟩
      · have HP2 : Hid (¬ (s.size = 0)) := hP2
        have hF2 := empty_no hP2
        clear hP2
        go_enter Try.func77, Try.ntmps77
        go_wp2_with fail
        go_ret
        first | exact ⟨false, rfl, iff_no (fun h0 => HP2.out (by have hh := (fit4 _ _ _ _).1 h0.1; exact hh.2.2.1)), hA⟩ | exact .inl ⟨rfl, iff_no (fun h0 => HP2.out (by have hh := (fit4 _ _ _ _).1 h0.1; exact hh.2.2.1)), hA⟩
    · have HP1 : Hid (¬ (n = 0)) := hP1
      have hF1 : (n == 0) = false := by simpa using hP1
      clear hP1
      go_enter Try.func77, Try.ntmps77
      go_wp2_with fail
      go_ret
      first | exact ⟨false, rfl, iff_no (fun h0 => HP1.out (by have hh := (fit4 _ _ _ _).1 h0.1; exact hh.1)), hA⟩ | exact .inl ⟨rfl, iff_no (fun h0 => HP1.out (by have hh := (fit4 _ _ _ _).1 h0.1; exact hh.1)), hA⟩
  · have HP0 : Hid (¬ (c = 0)) := hP0
    have hF0 : (0 : Int) < (c : Int) := by omega
    clear hP0
    go_enter Try.func77, Try.ntmps77
    go_wp2_with fail
    go_ret
    first | exact ⟨false, rfl, iff_no (fun h0 => HP0.out (by have hh := (fit4 _ _ _ _).1 h0.1; exact hh.2.1)), hA⟩ | exact .inl ⟨rfl, iff_no (fun h0 => HP0.out (by have hh := (fit4 _ _ _ _).1 h0.1; exact hh.2.1)), hA⟩

set_option maxHeartbeats 2000000 in
theorem specFit_true_5 (n : Int) (s : ByteArray) (a3 : Option Addr) (e c3 : Nat) (a4 : Option Addr) (c c4 : Nat) (w : World) (hs : s.size ≤ 9223372036854775807) (he : e ≤ 9223372036854775807) (hc : c ≤ 9223372036854775807) :
    Calls Try.prog 77 #[.agg #[.int .i64 5, .int .i64 n, .string s, .slice a3 e c3, .slice a4 c c4], .bool true] w fun r w' => ∃ b : Bool, r = .returned (.bool b) ∧ Hid (b = true ↔ ShX true 5 n s e c) ∧ Below w.heap.size w w' := by
  have hA : Below w.heap.size w (w.alloc (.cells #[.int .i64 5, .int .i64 n, .string s, .slice a3 e c3, .slice a4 c c4] 27)) := (Below.refl _ _).alloc (Nat.le_refl _) _
  by_cases hP0 : c = 0
  · subst hP0
    by_cases hP1 : n = 0
    · subst hP1
      by_cases hP2 : s.size = 0
      · have HP2 : Hid (s.size = 0) := hP2
        have hF2 := (empty_iff s).2 hP2
        clear hP2
        by_cases hP3 : e ≤ 20
        · have HP3 : Hid (e ≤ 20) := hP3
          have hF3 : decide ((e : Int) ≤ 20) = true := by simp; omega
          clear hP3
          go_enter Try.func77, Try.ntmps77
          go_wp2_with fail
          go_ret
          first | exact ⟨true, rfl, iff_yes ⟨(fit5 _ _ _ _).2 ⟨rfl, rfl, HP2.out, HP3.out⟩, fun _ => by decide, (fun h => by cases h)⟩, hA⟩ | exact .inr ⟨rfl, iff_yes ⟨(fit5 _ _ _ _).2 ⟨rfl, rfl, HP2.out, HP3.out⟩, (fun _ => by decide), (fun h => by cases h)⟩, hA⟩
        · have HP3 : Hid (¬ (e ≤ 20)) := hP3
          have hF3 : decide ((e : Int) ≤ 20) = false := by simp; omega
          clear hP3
          go_enter Try.func77, Try.ntmps77
          go_wp2_with fail
          go_ret
          first | exact ⟨false, rfl, iff_no (fun h0 => HP3.out (by have hh := (fit5 _ _ _ _).1 h0.1; exact hh.2.2.2)), hA⟩ | exact .inl ⟨rfl, iff_no (fun h0 => HP3.out (by have hh := (fit5 _ _ _ _).1 h0.1; exact hh.2.2.2)), hA⟩
      · have HP2 : Hid (¬ (s.size = 0)) := hP2
        have hF2 := empty_no hP2
        clear hP2
        go_enter Try.func77, Try.ntmps77
        go_wp2_with fail
        go_ret
        first | exact ⟨false, rfl, iff_no (fun h0 => HP2.out (by have hh := (fit5 _ _ _ _).1 h0.1; exact hh.2.2.1)), hA⟩ | exact .inl ⟨rfl, iff_no (fun h0 => HP2.out (by have hh := (fit5 _ _ _ _).1 h0.1; exact hh.2.2.1)), hA⟩
    · have HP1 : Hid (¬ (n = 0)) := hP1
      have hF1 : (n == 0) = false := by simpa using hP1
      clear hP1
      go_enter Try.func77, Try.ntmps77
      go_wp2_with fail
      go_ret
      first | exact ⟨false, rfl, iff_no (fun h0 => HP1.out (by have hh := (fit5 _ _ _ _).1 h0.1; exact hh.1)), hA⟩ | exact .inl ⟨rfl, iff_no (fun h0 => HP1.out (by have hh := (fit5 _ _ _ _).1 h0.1; exact hh.1)), hA⟩
  · have HP0 : Hid (¬ (c = 0)) := hP0
    have hF0 : (0 : Int) < (c : Int) := by omega
    clear hP0
    go_enter Try.func77, Try.ntmps77
    go_wp2_with fail
    go_ret
    first | exact ⟨false, rfl, iff_no (fun h0 => HP0.out (by have hh := (fit5 _ _ _ _).1 h0.1; exact hh.2.1)), hA⟩ | exact .inl ⟨rfl, iff_no (fun h0 => HP0.out (by have hh := (fit5 _ _ _ _).1 h0.1; exact hh.2.1)), hA⟩

set_option maxHeartbeats 2000000 in
theorem specFit_true_6 (n : Int) (s : ByteArray) (a3 : Option Addr) (e c3 : Nat) (a4 : Option Addr) (c c4 : Nat) (w : World) (hs : s.size ≤ 9223372036854775807) (he : e ≤ 9223372036854775807) (hc : c ≤ 9223372036854775807) :
    Calls Try.prog 77 #[.agg #[.int .i64 6, .int .i64 n, .string s, .slice a3 e c3, .slice a4 c c4], .bool true] w fun r w' => ∃ b : Bool, r = .returned (.bool b) ∧ Hid (b = true ↔ ShX true 6 n s e c) ∧ Below w.heap.size w w' := by
  have hA : Below w.heap.size w (w.alloc (.cells #[.int .i64 6, .int .i64 n, .string s, .slice a3 e c3, .slice a4 c c4] 27)) := (Below.refl _ _).alloc (Nat.le_refl _) _
  by_cases hP0 : c = 0
  · subst hP0
    by_cases hP1 : n = 0
    · subst hP1
      by_cases hP2 : s.size = 0
      · have HP2 : Hid (s.size = 0) := hP2
        have hF2 := (empty_iff s).2 hP2
        clear hP2
        by_cases hP3 : 2 ≤ e ∧ e ≤ 6
        · have HP3 : Hid (2 ≤ e ∧ e ≤ 6) := hP3
          have hF3 : decide ((2 : Int) ≤ (e : Int) ∧ (e : Int) ≤ 6) = true := decide_eq_true (by omega)
          clear hP3
          go_enter Try.func77, Try.ntmps77
          go_wp2_with fail
          refine (specIn_any (e : Int) 2 6 _).mono ?_
          rintro _ _ ⟨rfl, rfl⟩
          go_wp2_with fail
          go_ret
          first | exact ⟨true, rfl, iff_yes ⟨(fit6 _ _ _ _).2 ⟨rfl, rfl, HP2.out, HP3.out.1, HP3.out.2⟩, fun _ => by decide, (fun h => by cases h)⟩, hA⟩ | exact .inr ⟨rfl, iff_yes ⟨(fit6 _ _ _ _).2 ⟨rfl, rfl, HP2.out, HP3.out.1, HP3.out.2⟩, (fun _ => by decide), (fun h => by cases h)⟩, hA⟩
        · have HP3 : Hid (¬ (2 ≤ e ∧ e ≤ 6)) := hP3
          have hF3 : decide ((2 : Int) ≤ (e : Int) ∧ (e : Int) ≤ 6) = false := decide_eq_false (by omega)
          clear hP3
          go_enter Try.func77, Try.ntmps77
          go_wp2_with fail
          refine (specIn_any (e : Int) 2 6 _).mono ?_
          rintro _ _ ⟨rfl, rfl⟩
          go_wp2_with fail
          go_ret
          first | exact ⟨false, rfl, iff_no (fun h0 => HP3.out (by have hh := (fit6 _ _ _ _).1 h0.1; exact ⟨hh.2.2.2.1, hh.2.2.2.2⟩)), hA⟩ | exact .inl ⟨rfl, iff_no (fun h0 => HP3.out (by have hh := (fit6 _ _ _ _).1 h0.1; exact ⟨hh.2.2.2.1, hh.2.2.2.2⟩)), hA⟩
      · have HP2 : Hid (¬ (s.size = 0)) := hP2
        have hF2 := empty_no hP2
        clear hP2
        go_enter Try.func77, Try.ntmps77
        go_wp2_with fail
        go_ret
        first | exact ⟨false, rfl, iff_no (fun h0 => HP2.out (by have hh := (fit6 _ _ _ _).1 h0.1; exact hh.2.2.1)), hA⟩ | exact .inl ⟨rfl, iff_no (fun h0 => HP2.out (by have hh := (fit6 _ _ _ _).1 h0.1; exact hh.2.2.1)), hA⟩
    · have HP1 : Hid (¬ (n = 0)) := hP1
      have hF1 : (n == 0) = false := by simpa using hP1
      clear hP1
      go_enter Try.func77, Try.ntmps77
      go_wp2_with fail
      go_ret
      first | exact ⟨false, rfl, iff_no (fun h0 => HP1.out (by have hh := (fit6 _ _ _ _).1 h0.1; exact hh.1)), hA⟩ | exact .inl ⟨rfl, iff_no (fun h0 => HP1.out (by have hh := (fit6 _ _ _ _).1 h0.1; exact hh.1)), hA⟩
  · have HP0 : Hid (¬ (c = 0)) := hP0
    have hF0 : (0 : Int) < (c : Int) := by omega
    clear hP0
    go_enter Try.func77, Try.ntmps77
    go_wp2_with fail
    go_ret
    first | exact ⟨false, rfl, iff_no (fun h0 => HP0.out (by have hh := (fit6 _ _ _ _).1 h0.1; exact hh.2.1)), hA⟩ | exact .inl ⟨rfl, iff_no (fun h0 => HP0.out (by have hh := (fit6 _ _ _ _).1 h0.1; exact hh.2.1)), hA⟩

set_option maxHeartbeats 2000000 in
theorem specFit_true_7 (n : Int) (s : ByteArray) (a3 : Option Addr) (e c3 : Nat) (a4 : Option Addr) (c c4 : Nat) (w : World) (hs : s.size ≤ 9223372036854775807) (he : e ≤ 9223372036854775807) (hc : c ≤ 9223372036854775807) :
    Calls Try.prog 77 #[.agg #[.int .i64 7, .int .i64 n, .string s, .slice a3 e c3, .slice a4 c c4], .bool true] w fun r w' => ∃ b : Bool, r = .returned (.bool b) ∧ Hid (b = true ↔ ShX true 7 n s e c) ∧ Below w.heap.size w w' := by
  have hA : Below w.heap.size w (w.alloc (.cells #[.int .i64 7, .int .i64 n, .string s, .slice a3 e c3, .slice a4 c c4] 27)) := (Below.refl _ _).alloc (Nat.le_refl _) _
  by_cases hP0 : c = 0
  · subst hP0
    by_cases hP1 : n = 0
    · subst hP1
      go_enter Try.func77, Try.ntmps77
      go_wp2_with fail
      go_ret
      first | exact ⟨false, rfl, iff_no (fun h0 => by have := h0.2.1 rfl; revert this; decide), hA⟩ | exact .inl ⟨rfl, iff_no (fun h0 => by have := h0.2.1 rfl; revert this; decide), hA⟩
    · have HP1 : Hid (¬ (n = 0)) := hP1
      have hF1 : (n == 0) = false := by simpa using hP1
      clear hP1
      go_enter Try.func77, Try.ntmps77
      go_wp2_with fail
      go_ret
      first | exact ⟨false, rfl, iff_no (fun h0 => HP1.out (by have hh := (fit7 _ _ _ _).1 h0.1; exact hh.1)), hA⟩ | exact .inl ⟨rfl, iff_no (fun h0 => HP1.out (by have hh := (fit7 _ _ _ _).1 h0.1; exact hh.1)), hA⟩
  · have HP0 : Hid (¬ (c = 0)) := hP0
    have hF0 : (0 : Int) < (c : Int) := by omega
    clear hP0
    go_enter Try.func77, Try.ntmps77
    go_wp2_with fail
    go_ret
    first | exact ⟨false, rfl, iff_no (fun h0 => HP0.out (by have hh := (fit7 _ _ _ _).1 h0.1; exact hh.2.1)), hA⟩ | exact .inl ⟨rfl, iff_no (fun h0 => HP0.out (by have hh := (fit7 _ _ _ _).1 h0.1; exact hh.2.1)), hA⟩

set_option maxHeartbeats 2000000 in
theorem specFit_true_8 (n : Int) (s : ByteArray) (a3 : Option Addr) (e c3 : Nat) (a4 : Option Addr) (c c4 : Nat) (w : World) (hs : s.size ≤ 9223372036854775807) (he : e ≤ 9223372036854775807) (hc : c ≤ 9223372036854775807) :
    Calls Try.prog 77 #[.agg #[.int .i64 8, .int .i64 n, .string s, .slice a3 e c3, .slice a4 c c4], .bool true] w fun r w' => ∃ b : Bool, r = .returned (.bool b) ∧ Hid (b = true ↔ ShX true 8 n s e c) ∧ Below w.heap.size w w' := by
  have hA : Below w.heap.size w (w.alloc (.cells #[.int .i64 8, .int .i64 n, .string s, .slice a3 e c3, .slice a4 c c4] 27)) := (Below.refl _ _).alloc (Nat.le_refl _) _
  by_cases hP0 : c = 0
  · subst hP0
    by_cases hP1 : n = 0
    · subst hP1
      go_enter Try.func77, Try.ntmps77
      go_wp2_with fail
      go_ret
      first | exact ⟨false, rfl, iff_no (fun h0 => by have := h0.2.1 rfl; revert this; decide), hA⟩ | exact .inl ⟨rfl, iff_no (fun h0 => by have := h0.2.1 rfl; revert this; decide), hA⟩
    · have HP1 : Hid (¬ (n = 0)) := hP1
      have hF1 : (n == 0) = false := by simpa using hP1
      clear hP1
      go_enter Try.func77, Try.ntmps77
      go_wp2_with fail
      go_ret
      first | exact ⟨false, rfl, iff_no (fun h0 => HP1.out (by have hh := (fit8 _ _ _ _).1 h0.1; exact hh.1)), hA⟩ | exact .inl ⟨rfl, iff_no (fun h0 => HP1.out (by have hh := (fit8 _ _ _ _).1 h0.1; exact hh.1)), hA⟩
  · have HP0 : Hid (¬ (c = 0)) := hP0
    have hF0 : (0 : Int) < (c : Int) := by omega
    clear hP0
    go_enter Try.func77, Try.ntmps77
    go_wp2_with fail
    go_ret
    first | exact ⟨false, rfl, iff_no (fun h0 => HP0.out (by have hh := (fit8 _ _ _ _).1 h0.1; exact hh.2.1)), hA⟩ | exact .inl ⟨rfl, iff_no (fun h0 => HP0.out (by have hh := (fit8 _ _ _ _).1 h0.1; exact hh.2.1)), hA⟩

set_option maxHeartbeats 2000000 in
theorem specFit_true_9 (n : Int) (s : ByteArray) (a3 : Option Addr) (e c3 : Nat) (a4 : Option Addr) (c c4 : Nat) (w : World) (hs : s.size ≤ 9223372036854775807) (he : e ≤ 9223372036854775807) (hc : c ≤ 9223372036854775807) :
    Calls Try.prog 77 #[.agg #[.int .i64 9, .int .i64 n, .string s, .slice a3 e c3, .slice a4 c c4], .bool true] w fun r w' => ∃ b : Bool, r = .returned (.bool b) ∧ Hid (b = true ↔ ShX true 9 n s e c) ∧ Below w.heap.size w w' := by
  have hA : Below w.heap.size w (w.alloc (.cells #[.int .i64 9, .int .i64 n, .string s, .slice a3 e c3, .slice a4 c c4] 27)) := (Below.refl _ _).alloc (Nat.le_refl _) _
  by_cases hP0 : n = 0
  · subst hP0
    go_enter Try.func77, Try.ntmps77
    go_wp2_with fail
    go_ret
    first | exact ⟨false, rfl, iff_no (fun h0 => by have := h0.2.1 rfl; revert this; decide), hA⟩ | exact .inl ⟨rfl, iff_no (fun h0 => by have := h0.2.1 rfl; revert this; decide), hA⟩
  · have HP0 : Hid (¬ (n = 0)) := hP0
    have hF0 : (n == 0) = false := by simpa using hP0
    clear hP0
    go_enter Try.func77, Try.ntmps77
    go_wp2_with fail
    go_ret
    first | exact ⟨false, rfl, iff_no (fun h0 => HP0.out (by have hh := (fit9 _ _ _ _).1 h0.1; exact hh.1)), hA⟩ | exact .inl ⟨rfl, iff_no (fun h0 => HP0.out (by have hh := (fit9 _ _ _ _).1 h0.1; exact hh.1)), hA⟩

end Go.Proofs.Ytpokheklplcamaa

/- The model's test of an expression's own fields, whole. -/
namespace Go.Proofs.Ytpokheklplcamaa
open Go.RowKit
set_option linter.unusedVariables false

set_option maxHeartbeats 2000000 in
theorem specFit_false_no (k n : Int) (s : ByteArray) (a3 : Option Addr) (e c3 : Nat) (a4 : Option Addr) (c c4 : Nat) (w : World) (hk : ¬ (1 ≤ k ∧ k ≤ 9)) (he : e ≤ 9223372036854775807) (hc : c ≤ 9223372036854775807) :
    Calls Try.prog 77 #[.agg #[.int .i64 k, .int .i64 n, .string s, .slice a3 e c3, .slice a4 c c4], .bool false] w fun r w' => ∃ b : Bool, r = .returned (.bool b) ∧ Hid (b = true ↔ ShX false k n s e c) ∧ Below w.heap.size w w' := by
  have hA : Below w.heap.size w (w.alloc (.cells #[.int .i64 k, .int .i64 n, .string s, .slice a3 e c3, .slice a4 c c4] 27)) := (Below.refl _ _).alloc (Nat.le_refl _) _
  have HN : Hid (¬ ShX false k n s e c) := fun h => fit_no k n s e c hk h.1
  have k1 : ¬ k = 1 := by omega
  have j1 : (k == 1) = false := by simp; omega
  have k2 : ¬ k = 2 := by omega
  have j2 : (k == 2) = false := by simp; omega
  have k3 : ¬ k = 3 := by omega
  have j3 : (k == 3) = false := by simp; omega
  have k4 : ¬ k = 4 := by omega
  have j4 : (k == 4) = false := by simp; omega
  have k5 : ¬ k = 5 := by omega
  have j5 : (k == 5) = false := by simp; omega
  have k6 : ¬ k = 6 := by omega
  have j6 : (k == 6) = false := by simp; omega
  have k7 : ¬ k = 7 := by omega
  have j7 : (k == 7) = false := by simp; omega
  have k8 : ¬ k = 8 := by omega
  have j8 : (k == 8) = false := by simp; omega
  have k9 : ¬ k = 9 := by omega
  have j9 : (k == 9) = false := by simp; omega
  have m9 : (k != 9) = true := by simp; omega
  have m1 : (k != 1) = true := by simp; omega
  clear hk
  by_cases hn : n = 0
  · subst hn
    by_cases hc0 : c = 0
    · subst hc0
      go_enter Try.func77, Try.ntmps77
      go_wp2_with fail
      go_ret
      first | exact ⟨false, rfl, iff_no HN.out, hA⟩ | exact .inl ⟨rfl, iff_no HN.out, hA⟩ | exact .inl ⟨rfl, hA⟩
    · have hc1 : (0 : Int) < (c : Int) := by omega
      have hc2 : 0 < c := by omega
      go_enter Try.func77, Try.ntmps77
      go_wp2_with fail
      go_ret
      first | exact ⟨false, rfl, iff_no HN.out, hA⟩ | exact .inl ⟨rfl, iff_no HN.out, hA⟩ | exact .inl ⟨rfl, hA⟩
  · have hn1 : (n == 0) = false := by simpa using hn
    by_cases hc0 : c = 0
    · subst hc0
      go_enter Try.func77, Try.ntmps77
      go_wp2_with fail
      go_ret
      first | exact ⟨false, rfl, iff_no HN.out, hA⟩ | exact .inl ⟨rfl, iff_no HN.out, hA⟩ | exact .inl ⟨rfl, hA⟩
    · have hc1 : (0 : Int) < (c : Int) := by omega
      have hc2 : 0 < c := by omega
      go_enter Try.func77, Try.ntmps77
      go_wp2_with fail
      go_ret
      first | exact ⟨false, rfl, iff_no HN.out, hA⟩ | exact .inl ⟨rfl, iff_no HN.out, hA⟩ | exact .inl ⟨rfl, hA⟩

set_option maxHeartbeats 2000000 in
theorem specFit_true_no (k n : Int) (s : ByteArray) (a3 : Option Addr) (e c3 : Nat) (a4 : Option Addr) (c c4 : Nat) (w : World) (hk : ¬ (1 ≤ k ∧ k ≤ 9)) (he : e ≤ 9223372036854775807) (hc : c ≤ 9223372036854775807) :
    Calls Try.prog 77 #[.agg #[.int .i64 k, .int .i64 n, .string s, .slice a3 e c3, .slice a4 c c4], .bool true] w fun r w' => ∃ b : Bool, r = .returned (.bool b) ∧ Hid (b = true ↔ ShX true k n s e c) ∧ Below w.heap.size w w' := by
  have hA : Below w.heap.size w (w.alloc (.cells #[.int .i64 k, .int .i64 n, .string s, .slice a3 e c3, .slice a4 c c4] 27)) := (Below.refl _ _).alloc (Nat.le_refl _) _
  have HN : Hid (¬ ShX true k n s e c) := fun h => fit_no k n s e c hk h.1
  have k1 : ¬ k = 1 := by omega
  have j1 : (k == 1) = false := by simp; omega
  have k2 : ¬ k = 2 := by omega
  have j2 : (k == 2) = false := by simp; omega
  have k3 : ¬ k = 3 := by omega
  have j3 : (k == 3) = false := by simp; omega
  have k4 : ¬ k = 4 := by omega
  have j4 : (k == 4) = false := by simp; omega
  have k5 : ¬ k = 5 := by omega
  have j5 : (k == 5) = false := by simp; omega
  have k6 : ¬ k = 6 := by omega
  have j6 : (k == 6) = false := by simp; omega
  have k7 : ¬ k = 7 := by omega
  have j7 : (k == 7) = false := by simp; omega
  have k8 : ¬ k = 8 := by omega
  have j8 : (k == 8) = false := by simp; omega
  have k9 : ¬ k = 9 := by omega
  have j9 : (k == 9) = false := by simp; omega
  have m9 : (k != 9) = true := by simp; omega
  have m1 : (k != 1) = true := by simp; omega
  clear hk
  by_cases hn : n = 0
  · subst hn
    by_cases hc0 : c = 0
    · subst hc0
      go_enter Try.func77, Try.ntmps77
      go_wp2_with fail
      go_ret
      first | exact ⟨false, rfl, iff_no HN.out, hA⟩ | exact .inl ⟨rfl, iff_no HN.out, hA⟩ | exact .inl ⟨rfl, hA⟩
    · have hc1 : (0 : Int) < (c : Int) := by omega
      have hc2 : 0 < c := by omega
      go_enter Try.func77, Try.ntmps77
      go_wp2_with fail
      go_ret
      first | exact ⟨false, rfl, iff_no HN.out, hA⟩ | exact .inl ⟨rfl, iff_no HN.out, hA⟩ | exact .inl ⟨rfl, hA⟩
  · have hn1 : (n == 0) = false := by simpa using hn
    by_cases hc0 : c = 0
    · subst hc0
      go_enter Try.func77, Try.ntmps77
      go_wp2_with fail
      go_ret
      first | exact ⟨false, rfl, iff_no HN.out, hA⟩ | exact .inl ⟨rfl, iff_no HN.out, hA⟩ | exact .inl ⟨rfl, hA⟩
    · have hc1 : (0 : Int) < (c : Int) := by omega
      have hc2 : 0 < c := by omega
      go_enter Try.func77, Try.ntmps77
      go_wp2_with fail
      go_ret
      first | exact ⟨false, rfl, iff_no HN.out, hA⟩ | exact .inl ⟨rfl, iff_no HN.out, hA⟩ | exact .inl ⟨rfl, hA⟩

theorem specFit_any (pat : Bool) (k n : Int) (s : ByteArray) (a3 : Option Addr) (e c3 : Nat) (a4 : Option Addr) (c c4 : Nat) (w : World) (hs : s.size ≤ 9223372036854775807) (he : e ≤ 9223372036854775807) (hc : c ≤ 9223372036854775807) :
    Calls Try.prog 77 #[.agg #[.int .i64 k, .int .i64 n, .string s, .slice a3 e c3, .slice a4 c c4], .bool pat] w fun r w' => ∃ b : Bool, r = .returned (.bool b) ∧ Hid (b = true ↔ ShX pat k n s e c) ∧ Below w.heap.size w w' := by
  by_cases hk : 1 ≤ k ∧ k ≤ 9
  · cases pat
    · rcases (by omega : k = 1 ∨ k = 2 ∨ k = 3 ∨ k = 4 ∨ k = 5 ∨ k = 6 ∨ k = 7 ∨ k = 8 ∨ k = 9) with rfl | rfl | rfl | rfl | rfl | rfl | rfl | rfl | rfl
      · exact specFit_false_1 n s a3 e c3 a4 c c4 w hs he hc
      · exact specFit_false_2 n s a3 e c3 a4 c c4 w hs he hc
      · exact specFit_false_3 n s a3 e c3 a4 c c4 w hs he hc
      · exact specFit_false_4 n s a3 e c3 a4 c c4 w hs he hc
      · exact specFit_false_5 n s a3 e c3 a4 c c4 w hs he hc
      · exact specFit_false_6 n s a3 e c3 a4 c c4 w hs he hc
      · exact specFit_false_7 n s a3 e c3 a4 c c4 w hs he hc
      · exact specFit_false_8 n s a3 e c3 a4 c c4 w hs he hc
      · exact specFit_false_9 n s a3 e c3 a4 c c4 w hs he hc
    · rcases (by omega : k = 1 ∨ k = 2 ∨ k = 3 ∨ k = 4 ∨ k = 5 ∨ k = 6 ∨ k = 7 ∨ k = 8 ∨ k = 9) with rfl | rfl | rfl | rfl | rfl | rfl | rfl | rfl | rfl
      · exact specFit_true_1 n s a3 e c3 a4 c c4 w hs he hc
      · exact specFit_true_2 n s a3 e c3 a4 c c4 w hs he hc
      · exact specFit_true_3 n s a3 e c3 a4 c c4 w hs he hc
      · exact specFit_true_4 n s a3 e c3 a4 c c4 w hs he hc
      · exact specFit_true_5 n s a3 e c3 a4 c c4 w hs he hc
      · exact specFit_true_6 n s a3 e c3 a4 c c4 w hs he hc
      · exact specFit_true_7 n s a3 e c3 a4 c c4 w hs he hc
      · exact specFit_true_8 n s a3 e c3 a4 c c4 w hs he hc
      · exact specFit_true_9 n s a3 e c3 a4 c c4 w hs he hc
  · cases pat
    · exact specFit_false_no k n s a3 e c3 a4 c c4 w hk he hc
    · exact specFit_true_no k n s a3 e c3 a4 c c4 w hk he hc

end Go.Proofs.Ytpokheklplcamaa
