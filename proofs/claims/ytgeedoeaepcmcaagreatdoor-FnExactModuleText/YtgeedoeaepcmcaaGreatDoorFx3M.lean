/- The model's test of an expression's own fields. -/
import Derived.Test.YtgeedoeaepcmcaaGreatDoorFxM
namespace Go.Proofs.YtgeedoeaepcmcaaGreatDoor
open Go.RowKit
set_option linter.unusedVariables false

/-- As an expression, or as a pattern. -/
def ShX (pat : Bool) (k n : Int) (s : ByteArray) (e c : Nat) : Prop := Fit k n s e c ∧ (pat = true → k ≤ 6) ∧ (pat = false → k = 3 → ¬ s.toList = [95])

theorem l4Reserved_any (s : ByteArray) (w : World) : Calls Tryz.prog 53 #[.string s] w fun e w' => ∃ b : Bool, e = .returned (.bool b) ∧ Hid (b = true ↔ Wrd s) ∧ w = w' := by
  obtain ⟨x1, e1⟩ : ∃ x, (s.toList == [99, 97, 115, 101]) = x := ⟨_, rfl⟩
  obtain ⟨x2, e2⟩ : ∃ x, (s.toList == [111, 102]) = x := ⟨_, rfl⟩
  obtain ⟨x3, e3⟩ : ∃ x, (s.toList == [101, 110, 100]) = x := ⟨_, rfl⟩
  have HB : Hid ((x1 || x2 || x3) = true ↔ Wrd s) := by
    subst e1 e2 e3
    unfold Wrd
    show _ ↔ _
    simp [or_assoc]
  go_enter Tryz.func53, Tryz.ntmps53
  cases x1
  · cases x2
    · cases x3
      · go_wp2_with fail
        go_ret
        exact ⟨false, rfl, HB, rfl⟩
      · go_wp2_with fail
        go_ret
        exact ⟨true, rfl, HB, rfl⟩
    · go_wp2_with fail
      go_ret
      exact ⟨true, rfl, HB, rfl⟩
  · go_wp2_with fail
    go_ret
    exact ⟨true, rfl, HB, rfl⟩

theorem l4Op_any (s : ByteArray) (w : World) : Calls Tryz.prog 80 #[.string s] w fun e w' => ∃ b : Bool, e = .returned (.bool b) ∧ Hid (b = true ↔ OpP s) ∧ w = w' := by
  obtain ⟨x1, e1⟩ : ∃ x, (s.toList == [43]) = x := ⟨_, rfl⟩
  obtain ⟨x2, e2⟩ : ∃ x, (s.toList == [45]) = x := ⟨_, rfl⟩
  obtain ⟨x3, e3⟩ : ∃ x, (s.toList == [42]) = x := ⟨_, rfl⟩
  obtain ⟨x4, e4⟩ : ∃ x, (s.toList == [61, 61]) = x := ⟨_, rfl⟩
  obtain ⟨x5, e5⟩ : ∃ x, (s.toList == [60]) = x := ⟨_, rfl⟩
  have HB : Hid ((x1 || x2 || x3 || x4 || x5) = true ↔ OpP s) := by
    subst e1 e2 e3 e4 e5
    unfold OpP
    show _ ↔ _
    simp [or_assoc]
  go_enter Tryz.func80, Tryz.ntmps80
  cases x1
  · cases x2
    · cases x3
      · cases x4
        · cases x5
          · go_wp2_with fail
            go_ret
            exact ⟨false, rfl, HB, rfl⟩
          · go_wp2_with fail
            go_ret
            exact ⟨true, rfl, HB, rfl⟩
        · go_wp2_with fail
          go_ret
          exact ⟨true, rfl, HB, rfl⟩
      · go_wp2_with fail
        go_ret
        exact ⟨true, rfl, HB, rfl⟩
    · go_wp2_with fail
      go_ret
      exact ⟨true, rfl, HB, rfl⟩
  · go_wp2_with fail
    go_ret
    exact ⟨true, rfl, HB, rfl⟩

theorem l4Atom_any (s : ByteArray) (w : World) (hs : s.size ≤ 9223372036854775807) : Calls Tryz.prog 34 #[.string s] w fun e w' => ∃ b : Bool, e = .returned (.bool b) ∧ Hid (b = true ↔ AtomP s ∧ ¬ Wrd s) ∧ Below w.heap.size w w' := by
  have hA := specAtomOk_any s w hs
  have HRV : Hid (∀ V : World, _) := fun V => l4Reserved_any s V
  go_enter Tryz.func34, Tryz.ntmps34
  go_wp2_with fail
  refine hA.mono ?_
  clear hA
  rintro e w1 ⟨b, rfl, hb, hw1⟩
  have HW1 : Hid (Below w.heap.size w w1) := (by rw [← hw1]; exact Below.refl _ _)
  have HB : Hid (b = true ↔ AtomP s) := hb
  clear hb hw1
  cases b
  · have HN : Hid (¬ (AtomP s ∧ ¬ Wrd s)) := fun h => by have := HB.out.2 h.1; cases this
    go_wp2_with fail
    go_ret
    exact ⟨false, rfl, iff_no HN.out, HW1.out⟩
  · go_wp2_with fail
    refine (HRV.out _).mono ?_
    rintro e w2 ⟨b2, rfl, hb2, rfl⟩
    cases b2
    · have HY : Hid (AtomP s ∧ ¬ Wrd s) := ⟨HB.out.1 (by simp), fun h => by have := hb2.out.2 h; cases this⟩
      go_wp2_with fail
      go_ret
      exact ⟨true, rfl, iff_yes HY.out, HW1.out⟩
    · have HN : Hid (¬ (AtomP s ∧ ¬ Wrd s)) := fun h => h.2 (hb2.out.1 (by simp))
      go_wp2_with fail
      go_ret
      exact ⟨false, rfl, iff_no HN.out, HW1.out⟩

set_option maxHeartbeats 2000000 in
theorem specFit_false_1 (n : Int) (s : ByteArray) (a3 : Option Addr) (e c3 : Nat) (a4 : Option Addr) (c c4 : Nat) (w : World) (hs : s.size ≤ 9223372036854775807) (he : e ≤ 9223372036854775807) (hc : c ≤ 9223372036854775807) :
    Calls Tryz.prog 67 #[.agg #[.int .i64 1, .int .i64 n, .string s, .slice a3 e c3, .slice a4 c c4], .bool false] w fun r w' => ∃ b : Bool, r = .returned (.bool b) ∧ Hid (b = true ↔ ShX false 1 n s e c) ∧ Below w.heap.size w w' := by
  have hA : Below w.heap.size w (w.alloc (.cells #[.int .i64 1, .int .i64 n, .string s, .slice a3 e c3, .slice a4 c c4] 39)) := (Below.refl _ _).alloc (Nat.le_refl _) _
  by_cases hP0 : c = 0
  · subst hP0
    by_cases hP1 : 0 ≤ n ∧ n ≤ 1000000000000
    · have HP1 : Hid (0 ≤ n ∧ n ≤ 1000000000000) := hP1
      have hF1 : decide ((0 : Int) ≤ n ∧ n ≤ 1000000000000) = true := decide_eq_true hP1
      clear hP1
      by_cases hP2 : s.size = 0
      · have HP2 : Hid (s.size = 0) := hP2
        have hF2 := (empty_iff s).2 hP2
        clear hP2
        by_cases hP3 : e = 0
        · have HP3 : Hid (e = 0) := hP3
          have hF3 : ((e : Int) == 0) = true := by simp [hP3]
          clear hP3
          go_enter Tryz.func67, Tryz.ntmps67
          go_wp2_with fail
          refine (specIn_any n 0 1000000000000 _).mono ?_
          rintro _ _ ⟨rfl, rfl⟩
          go_wp2_with fail
          go_ret
          first | exact ⟨true, rfl, iff_yes ⟨(fit1 _ _ _ _).2 ⟨rfl, HP1.out.1, HP1.out.2, HP2.out, HP3.out⟩, (fun h => by cases h), (fun _ h => by cases h)⟩, hA⟩ | exact .inr ⟨rfl, iff_yes ⟨(fit1 _ _ _ _).2 ⟨rfl, HP1.out.1, HP1.out.2, HP2.out, HP3.out⟩, (fun h => by cases h), (fun _ h => by cases h)⟩, hA⟩
        · have HP3 : Hid (¬ (e = 0)) := hP3
          have hF3 : ((e : Int) == 0) = false := by simp [hP3]
          clear hP3
          go_enter Tryz.func67, Tryz.ntmps67
          go_wp2_with fail
          refine (specIn_any n 0 1000000000000 _).mono ?_
          rintro _ _ ⟨rfl, rfl⟩
          go_wp2_with fail
          go_ret
          first | exact ⟨false, rfl, iff_no (fun h0 => HP3.out (by have hh := (fit1 _ _ _ _).1 h0.1; exact hh.2.2.2.2)), hA⟩ | exact .inl ⟨rfl, iff_no (fun h0 => HP3.out (by have hh := (fit1 _ _ _ _).1 h0.1; exact hh.2.2.2.2)), hA⟩
      · have HP2 : Hid (¬ (s.size = 0)) := hP2
        have hF2 := empty_no hP2
        clear hP2
        go_enter Tryz.func67, Tryz.ntmps67
        go_wp2_with fail
        refine (specIn_any n 0 1000000000000 _).mono ?_
        rintro _ _ ⟨rfl, rfl⟩
        go_wp2_with fail
        go_ret
        first | exact ⟨false, rfl, iff_no (fun h0 => HP2.out (by have hh := (fit1 _ _ _ _).1 h0.1; exact hh.2.2.2.1)), hA⟩ | exact .inl ⟨rfl, iff_no (fun h0 => HP2.out (by have hh := (fit1 _ _ _ _).1 h0.1; exact hh.2.2.2.1)), hA⟩
    · have HP1 : Hid (¬ (0 ≤ n ∧ n ≤ 1000000000000)) := hP1
      have hF1 : decide ((0 : Int) ≤ n ∧ n ≤ 1000000000000) = false := decide_eq_false hP1
      clear hP1
      go_enter Tryz.func67, Tryz.ntmps67
      go_wp2_with fail
      refine (specIn_any n 0 1000000000000 _).mono ?_
      rintro _ _ ⟨rfl, rfl⟩
      go_wp2_with fail
      go_ret
      first | exact ⟨false, rfl, iff_no (fun h0 => HP1.out (by have hh := (fit1 _ _ _ _).1 h0.1; exact ⟨hh.2.1, hh.2.2.1⟩)), hA⟩ | exact .inl ⟨rfl, iff_no (fun h0 => HP1.out (by have hh := (fit1 _ _ _ _).1 h0.1; exact ⟨hh.2.1, hh.2.2.1⟩)), hA⟩
  · have HP0 : Hid (¬ (c = 0)) := hP0
    have hF0 : (0 : Int) < (c : Int) := by omega
    clear hP0
    go_enter Tryz.func67, Tryz.ntmps67
    go_wp2_with fail
    go_ret
    first | exact ⟨false, rfl, iff_no (fun h0 => HP0.out (by have hh := (fit1 _ _ _ _).1 h0.1; exact hh.1)), hA⟩ | exact .inl ⟨rfl, iff_no (fun h0 => HP0.out (by have hh := (fit1 _ _ _ _).1 h0.1; exact hh.1)), hA⟩

set_option maxHeartbeats 2000000 in
theorem specFit_false_2 (n : Int) (s : ByteArray) (a3 : Option Addr) (e c3 : Nat) (a4 : Option Addr) (c c4 : Nat) (w : World) (hs : s.size ≤ 9223372036854775807) (he : e ≤ 9223372036854775807) (hc : c ≤ 9223372036854775807) :
    Calls Tryz.prog 67 #[.agg #[.int .i64 2, .int .i64 n, .string s, .slice a3 e c3, .slice a4 c c4], .bool false] w fun r w' => ∃ b : Bool, r = .returned (.bool b) ∧ Hid (b = true ↔ ShX false 2 n s e c) ∧ Below w.heap.size w w' := by
  have hA : Below w.heap.size w (w.alloc (.cells #[.int .i64 2, .int .i64 n, .string s, .slice a3 e c3, .slice a4 c c4] 39)) := (Below.refl _ _).alloc (Nat.le_refl _) _
  by_cases hP0 : c = 0
  · subst hP0
    by_cases hP1 : n = 0
    · subst hP1
      by_cases hP2 : AtomP s ∧ ¬ Wrd s
      · have HP2 : Hid (AtomP s ∧ ¬ Wrd s) := hP2
        clear hP2
        by_cases hP3 : e = 0
        · have HP3 : Hid (e = 0) := hP3
          have hF3 : ((e : Int) == 0) = true := by simp [hP3]
          clear hP3
          go_enter Tryz.func67, Tryz.ntmps67
          go_wp2_with fail
          refine (l4Atom_any s _ hs).mono ?_
          rintro _ wv ⟨b, rfl, hb, hwv⟩
          have hA := hA.trans (hwv.mono hA.size)
          obtain rfl : b = true := hb.out.2 HP2.out
          clear hb hwv
          go_wp2_with fail
          go_ret
          first | exact ⟨true, rfl, iff_yes ⟨(fit2 _ _ _ _).2 ⟨rfl, rfl, HP2.out, HP3.out⟩, (fun h => by cases h), (fun _ h => by cases h)⟩, hA⟩ | exact .inr ⟨rfl, iff_yes ⟨(fit2 _ _ _ _).2 ⟨rfl, rfl, HP2.out, HP3.out⟩, (fun h => by cases h), (fun _ h => by cases h)⟩, hA⟩
        · have HP3 : Hid (¬ (e = 0)) := hP3
          have hF3 : ((e : Int) == 0) = false := by simp [hP3]
          clear hP3
          go_enter Tryz.func67, Tryz.ntmps67
          go_wp2_with fail
          refine (l4Atom_any s _ hs).mono ?_
          rintro _ wv ⟨b, rfl, hb, hwv⟩
          have hA := hA.trans (hwv.mono hA.size)
          obtain rfl : b = true := hb.out.2 HP2.out
          clear hb hwv
          go_wp2_with fail
          go_ret
          first | exact ⟨false, rfl, iff_no (fun h0 => HP3.out (by have hh := (fit2 _ _ _ _).1 h0.1; exact hh.2.2.2)), hA⟩ | exact .inl ⟨rfl, iff_no (fun h0 => HP3.out (by have hh := (fit2 _ _ _ _).1 h0.1; exact hh.2.2.2)), hA⟩
      · have HP2 : Hid (¬ (AtomP s ∧ ¬ Wrd s)) := hP2
        clear hP2
        go_enter Tryz.func67, Tryz.ntmps67
        go_wp2_with fail
        refine (l4Atom_any s _ hs).mono ?_
        rintro _ wv ⟨b, rfl, hb, hwv⟩
        have hA := hA.trans (hwv.mono hA.size)
        obtain rfl : b = false := by cases b; exact rfl; exact absurd (hb.out.1 rfl) HP2.out
        clear hb hwv
        go_wp2_with fail
        go_ret
        first | exact ⟨false, rfl, iff_no (fun h0 => HP2.out (by have hh := (fit2 _ _ _ _).1 h0.1; exact hh.2.2.1)), hA⟩ | exact .inl ⟨rfl, iff_no (fun h0 => HP2.out (by have hh := (fit2 _ _ _ _).1 h0.1; exact hh.2.2.1)), hA⟩
    · have HP1 : Hid (¬ (n = 0)) := hP1
      have hF1 : (n == 0) = false := by simpa using hP1
      clear hP1
      go_enter Tryz.func67, Tryz.ntmps67
      go_wp2_with fail
      go_ret
      first | exact ⟨false, rfl, iff_no (fun h0 => HP1.out (by have hh := (fit2 _ _ _ _).1 h0.1; exact hh.1)), hA⟩ | exact .inl ⟨rfl, iff_no (fun h0 => HP1.out (by have hh := (fit2 _ _ _ _).1 h0.1; exact hh.1)), hA⟩
  · have HP0 : Hid (¬ (c = 0)) := hP0
    have hF0 : (0 : Int) < (c : Int) := by omega
    clear hP0
    go_enter Tryz.func67, Tryz.ntmps67
    go_wp2_with fail
    go_ret
    first | exact ⟨false, rfl, iff_no (fun h0 => HP0.out (by have hh := (fit2 _ _ _ _).1 h0.1; exact hh.2.1)), hA⟩ | exact .inl ⟨rfl, iff_no (fun h0 => HP0.out (by have hh := (fit2 _ _ _ _).1 h0.1; exact hh.2.1)), hA⟩

set_option maxHeartbeats 2000000 in
theorem specFit_false_3 (n : Int) (s : ByteArray) (a3 : Option Addr) (e c3 : Nat) (a4 : Option Addr) (c c4 : Nat) (w : World) (hs : s.size ≤ 9223372036854775807) (he : e ≤ 9223372036854775807) (hc : c ≤ 9223372036854775807) :
    Calls Tryz.prog 67 #[.agg #[.int .i64 3, .int .i64 n, .string s, .slice a3 e c3, .slice a4 c c4], .bool false] w fun r w' => ∃ b : Bool, r = .returned (.bool b) ∧ Hid (b = true ↔ ShX false 3 n s e c) ∧ Below w.heap.size w w' := by
  have hA : Below w.heap.size w (w.alloc (.cells #[.int .i64 3, .int .i64 n, .string s, .slice a3 e c3, .slice a4 c c4] 39)) := (Below.refl _ _).alloc (Nat.le_refl _) _
  by_cases hP0 : c = 0
  · subst hP0
    by_cases hP1 : n = 0
    · subst hP1
      by_cases hP2 : NameP s
      · have HP2 : Hid (NameP s) := hP2
        clear hP2
        by_cases hP3 : e = 0
        · have HP3 : Hid (e = 0) := hP3
          have hF3 : ((e : Int) == 0) = true := by simp [hP3]
          clear hP3
          by_cases hP4 : ¬ s.toList = [95]
          · have HP4 : Hid (¬ s.toList = [95]) := hP4
            have hF4 : (s.toList == [95]) = false := by simpa using hP4
            clear hP4
            go_enter Tryz.func67, Tryz.ntmps67
            go_wp2_with fail
            refine (specVarOk_any s _ hs).mono ?_
            rintro _ _ ⟨b, rfl, hb, rfl⟩
            obtain rfl : b = true := hb.2 HP2.out
            clear hb
            go_wp2_with fail
            go_ret
            first | exact ⟨true, rfl, iff_yes ⟨(fit3 _ _ _ _).2 ⟨rfl, rfl, HP2.out, HP3.out⟩, (fun h => by cases h), (fun _ _ => HP4.out)⟩, hA⟩ | exact .inr ⟨rfl, iff_yes ⟨(fit3 _ _ _ _).2 ⟨rfl, rfl, HP2.out, HP3.out⟩, (fun h => by cases h), (fun _ _ => HP4.out)⟩, hA⟩
          · have HP4 : Hid (¬ (¬ s.toList = [95])) := hP4
            have hF4 : (s.toList == [95]) = true := by simpa using hP4
            clear hP4
            go_enter Tryz.func67, Tryz.ntmps67
            go_wp2_with fail
            refine (specVarOk_any s _ hs).mono ?_
            rintro _ _ ⟨b, rfl, hb, rfl⟩
            obtain rfl : b = true := hb.2 HP2.out
            clear hb
            go_wp2_with fail
            go_ret
            first | exact ⟨false, rfl, iff_no (fun h0 => HP4.out (h0.2.2 rfl rfl)), hA⟩ | exact .inl ⟨rfl, iff_no (fun h0 => HP4.out (h0.2.2 rfl rfl)), hA⟩
        · have HP3 : Hid (¬ (e = 0)) := hP3
          have hF3 : ((e : Int) == 0) = false := by simp [hP3]
          clear hP3
          go_enter Tryz.func67, Tryz.ntmps67
          go_wp2_with fail
          refine (specVarOk_any s _ hs).mono ?_
          rintro _ _ ⟨b, rfl, hb, rfl⟩
          obtain rfl : b = true := hb.2 HP2.out
          clear hb
          go_wp2_with fail
          go_ret
          first | exact ⟨false, rfl, iff_no (fun h0 => HP3.out (by have hh := (fit3 _ _ _ _).1 h0.1; exact hh.2.2.2)), hA⟩ | exact .inl ⟨rfl, iff_no (fun h0 => HP3.out (by have hh := (fit3 _ _ _ _).1 h0.1; exact hh.2.2.2)), hA⟩
      · have HP2 : Hid (¬ (NameP s)) := hP2
        clear hP2
        go_enter Tryz.func67, Tryz.ntmps67
        go_wp2_with fail
        refine (specVarOk_any s _ hs).mono ?_
        rintro _ _ ⟨b, rfl, hb, rfl⟩
        obtain rfl : b = false := by cases b; exact rfl; exact absurd (hb.1 rfl) HP2.out
        clear hb
        go_wp2_with fail
        go_ret
        first | exact ⟨false, rfl, iff_no (fun h0 => HP2.out (by have hh := (fit3 _ _ _ _).1 h0.1; exact hh.2.2.1)), hA⟩ | exact .inl ⟨rfl, iff_no (fun h0 => HP2.out (by have hh := (fit3 _ _ _ _).1 h0.1; exact hh.2.2.1)), hA⟩
    · have HP1 : Hid (¬ (n = 0)) := hP1
      have hF1 : (n == 0) = false := by simpa using hP1
      clear hP1
      go_enter Tryz.func67, Tryz.ntmps67
      go_wp2_with fail
      go_ret
      first | exact ⟨false, rfl, iff_no (fun h0 => HP1.out (by have hh := (fit3 _ _ _ _).1 h0.1; exact hh.1)), hA⟩ | exact .inl ⟨rfl, iff_no (fun h0 => HP1.out (by have hh := (fit3 _ _ _ _).1 h0.1; exact hh.1)), hA⟩
  · have HP0 : Hid (¬ (c = 0)) := hP0
    have hF0 : (0 : Int) < (c : Int) := by omega
    clear hP0
    go_enter Tryz.func67, Tryz.ntmps67
    go_wp2_with fail
    go_ret
    first | exact ⟨false, rfl, iff_no (fun h0 => HP0.out (by have hh := (fit3 _ _ _ _).1 h0.1; exact hh.2.1)), hA⟩ | exact .inl ⟨rfl, iff_no (fun h0 => HP0.out (by have hh := (fit3 _ _ _ _).1 h0.1; exact hh.2.1)), hA⟩

set_option maxHeartbeats 2000000 in
theorem specFit_false_4 (n : Int) (s : ByteArray) (a3 : Option Addr) (e c3 : Nat) (a4 : Option Addr) (c c4 : Nat) (w : World) (hs : s.size ≤ 9223372036854775807) (he : e ≤ 9223372036854775807) (hc : c ≤ 9223372036854775807) :
    Calls Tryz.prog 67 #[.agg #[.int .i64 4, .int .i64 n, .string s, .slice a3 e c3, .slice a4 c c4], .bool false] w fun r w' => ∃ b : Bool, r = .returned (.bool b) ∧ Hid (b = true ↔ ShX false 4 n s e c) ∧ Below w.heap.size w w' := by
  have hA : Below w.heap.size w (w.alloc (.cells #[.int .i64 4, .int .i64 n, .string s, .slice a3 e c3, .slice a4 c c4] 39)) := (Below.refl _ _).alloc (Nat.le_refl _) _
  by_cases hP0 : c = 0
  · subst hP0
    by_cases hP1 : n = 0
    · subst hP1
      by_cases hP2 : s.size = 0
      · have HP2 : Hid (s.size = 0) := hP2
        have hF2 := (empty_iff s).2 hP2
        clear hP2
        by_cases hP3 : e ≤ 20
        · have HP3 : Hid (e ≤ 20) := hP3
          have hF3 : decide ((e : Int) ≤ 20) = true := by simp; omega
          clear hP3
          go_enter Tryz.func67, Tryz.ntmps67
          go_wp2_with fail
          go_ret
          first | exact ⟨true, rfl, iff_yes ⟨(fit4 _ _ _ _).2 ⟨rfl, rfl, HP2.out, HP3.out⟩, (fun h => by cases h), (fun _ h => by cases h)⟩, hA⟩ | exact .inr ⟨rfl, iff_yes ⟨(fit4 _ _ _ _).2 ⟨rfl, rfl, HP2.out, HP3.out⟩, (fun h => by cases h), (fun _ h => by cases h)⟩, hA⟩
        · have HP3 : Hid (¬ (e ≤ 20)) := hP3
          have hF3 : decide ((e : Int) ≤ 20) = false := by simp; omega
          clear hP3
          go_enter Tryz.func67, Tryz.ntmps67
          go_wp2_with fail
          go_ret
          first | exact ⟨false, rfl, iff_no (fun h0 => HP3.out (by have hh := (fit4 _ _ _ _).1 h0.1; exact hh.2.2.2)), hA⟩ | exact .inl ⟨rfl, iff_no (fun h0 => HP3.out (by have hh := (fit4 _ _ _ _).1 h0.1; exact hh.2.2.2)), hA⟩
      · have HP2 : Hid (¬ (s.size = 0)) := hP2
        have hF2 := empty_no hP2
        clear hP2
        go_enter Tryz.func67, Tryz.ntmps67
        go_wp2_with fail
        go_ret
        first | exact ⟨false, rfl, iff_no (fun h0 => HP2.out (by have hh := (fit4 _ _ _ _).1 h0.1; exact hh.2.2.1)), hA⟩ | exact .inl ⟨rfl, iff_no (fun h0 => HP2.out (by have hh := (fit4 _ _ _ _).1 h0.1; exact hh.2.2.1)), hA⟩
    · have HP1 : Hid (¬ (n = 0)) := hP1
      have hF1 : (n == 0) = false := by simpa using hP1
      clear hP1
      go_enter Tryz.func67, Tryz.ntmps67
      go_wp2_with fail
      go_ret
      first | exact ⟨false, rfl, iff_no (fun h0 => HP1.out (by have hh := (fit4 _ _ _ _).1 h0.1; exact hh.1)), hA⟩ | exact .inl ⟨rfl, iff_no (fun h0 => HP1.out (by have hh := (fit4 _ _ _ _).1 h0.1; exact hh.1)), hA⟩
  · have HP0 : Hid (¬ (c = 0)) := hP0
    have hF0 : (0 : Int) < (c : Int) := by omega
    clear hP0
    go_enter Tryz.func67, Tryz.ntmps67
    go_wp2_with fail
    go_ret
    first | exact ⟨false, rfl, iff_no (fun h0 => HP0.out (by have hh := (fit4 _ _ _ _).1 h0.1; exact hh.2.1)), hA⟩ | exact .inl ⟨rfl, iff_no (fun h0 => HP0.out (by have hh := (fit4 _ _ _ _).1 h0.1; exact hh.2.1)), hA⟩

set_option maxHeartbeats 2000000 in
theorem specFit_false_5 (n : Int) (s : ByteArray) (a3 : Option Addr) (e c3 : Nat) (a4 : Option Addr) (c c4 : Nat) (w : World) (hs : s.size ≤ 9223372036854775807) (he : e ≤ 9223372036854775807) (hc : c ≤ 9223372036854775807) :
    Calls Tryz.prog 67 #[.agg #[.int .i64 5, .int .i64 n, .string s, .slice a3 e c3, .slice a4 c c4], .bool false] w fun r w' => ∃ b : Bool, r = .returned (.bool b) ∧ Hid (b = true ↔ ShX false 5 n s e c) ∧ Below w.heap.size w w' := by
  have hA : Below w.heap.size w (w.alloc (.cells #[.int .i64 5, .int .i64 n, .string s, .slice a3 e c3, .slice a4 c c4] 39)) := (Below.refl _ _).alloc (Nat.le_refl _) _
  by_cases hP0 : c = 0
  · subst hP0
    by_cases hP1 : n = 0
    · subst hP1
      by_cases hP2 : s.size = 0
      · have HP2 : Hid (s.size = 0) := hP2
        have hF2 := (empty_iff s).2 hP2
        clear hP2
        by_cases hP3 : e ≤ 20
        · have HP3 : Hid (e ≤ 20) := hP3
          have hF3 : decide ((e : Int) ≤ 20) = true := by simp; omega
          clear hP3
          go_enter Tryz.func67, Tryz.ntmps67
          go_wp2_with fail
          go_ret
          first | exact ⟨true, rfl, iff_yes ⟨(fit5 _ _ _ _).2 ⟨rfl, rfl, HP2.out, HP3.out⟩, (fun h => by cases h), (fun _ h => by cases h)⟩, hA⟩ | exact .inr ⟨rfl, iff_yes ⟨(fit5 _ _ _ _).2 ⟨rfl, rfl, HP2.out, HP3.out⟩, (fun h => by cases h), (fun _ h => by cases h)⟩, hA⟩
        · have HP3 : Hid (¬ (e ≤ 20)) := hP3
          have hF3 : decide ((e : Int) ≤ 20) = false := by simp; omega
          clear hP3
          go_enter Tryz.func67, Tryz.ntmps67
          go_wp2_with fail
          go_ret
          first | exact ⟨false, rfl, iff_no (fun h0 => HP3.out (by have hh := (fit5 _ _ _ _).1 h0.1; exact hh.2.2.2)), hA⟩ | exact .inl ⟨rfl, iff_no (fun h0 => HP3.out (by have hh := (fit5 _ _ _ _).1 h0.1; exact hh.2.2.2)), hA⟩
      · have HP2 : Hid (¬ (s.size = 0)) := hP2
        have hF2 := empty_no hP2
        clear hP2
        go_enter Tryz.func67, Tryz.ntmps67
        go_wp2_with fail
        go_ret
        first | exact ⟨false, rfl, iff_no (fun h0 => HP2.out (by have hh := (fit5 _ _ _ _).1 h0.1; exact hh.2.2.1)), hA⟩ | exact .inl ⟨rfl, iff_no (fun h0 => HP2.out (by have hh := (fit5 _ _ _ _).1 h0.1; exact hh.2.2.1)), hA⟩
    · have HP1 : Hid (¬ (n = 0)) := hP1
      have hF1 : (n == 0) = false := by simpa using hP1
      clear hP1
      go_enter Tryz.func67, Tryz.ntmps67
      go_wp2_with fail
      go_ret
      first | exact ⟨false, rfl, iff_no (fun h0 => HP1.out (by have hh := (fit5 _ _ _ _).1 h0.1; exact hh.1)), hA⟩ | exact .inl ⟨rfl, iff_no (fun h0 => HP1.out (by have hh := (fit5 _ _ _ _).1 h0.1; exact hh.1)), hA⟩
  · have HP0 : Hid (¬ (c = 0)) := hP0
    have hF0 : (0 : Int) < (c : Int) := by omega
    clear hP0
    go_enter Tryz.func67, Tryz.ntmps67
    go_wp2_with fail
    go_ret
    first | exact ⟨false, rfl, iff_no (fun h0 => HP0.out (by have hh := (fit5 _ _ _ _).1 h0.1; exact hh.2.1)), hA⟩ | exact .inl ⟨rfl, iff_no (fun h0 => HP0.out (by have hh := (fit5 _ _ _ _).1 h0.1; exact hh.2.1)), hA⟩

set_option maxHeartbeats 2000000 in
theorem specFit_false_6 (n : Int) (s : ByteArray) (a3 : Option Addr) (e c3 : Nat) (a4 : Option Addr) (c c4 : Nat) (w : World) (hs : s.size ≤ 9223372036854775807) (he : e ≤ 9223372036854775807) (hc : c ≤ 9223372036854775807) :
    Calls Tryz.prog 67 #[.agg #[.int .i64 6, .int .i64 n, .string s, .slice a3 e c3, .slice a4 c c4], .bool false] w fun r w' => ∃ b : Bool, r = .returned (.bool b) ∧ Hid (b = true ↔ ShX false 6 n s e c) ∧ Below w.heap.size w w' := by
  have hA : Below w.heap.size w (w.alloc (.cells #[.int .i64 6, .int .i64 n, .string s, .slice a3 e c3, .slice a4 c c4] 39)) := (Below.refl _ _).alloc (Nat.le_refl _) _
  by_cases hP0 : c = 0
  · subst hP0
    by_cases hP1 : n = 0
    · subst hP1
      by_cases hP2 : s.size = 0
      · have HP2 : Hid (s.size = 0) := hP2
        have hF2 := (empty_iff s).2 hP2
        clear hP2
        by_cases hP3 : 2 ≤ e ∧ e ≤ 6
        · have HP3 : Hid (2 ≤ e ∧ e ≤ 6) := hP3
          have hF3 : decide ((2 : Int) ≤ (e : Int) ∧ (e : Int) ≤ 6) = true := decide_eq_true (by omega)
          clear hP3
          go_enter Tryz.func67, Tryz.ntmps67
          go_wp2_with fail
          refine (specIn_any (e : Int) 2 6 _).mono ?_
          rintro _ _ ⟨rfl, rfl⟩
          go_wp2_with fail
          go_ret
          first | exact ⟨true, rfl, iff_yes ⟨(fit6 _ _ _ _).2 ⟨rfl, rfl, HP2.out, HP3.out.1, HP3.out.2⟩, (fun h => by cases h), (fun _ h => by cases h)⟩, hA⟩ | exact .inr ⟨rfl, iff_yes ⟨(fit6 _ _ _ _).2 ⟨rfl, rfl, HP2.out, HP3.out.1, HP3.out.2⟩, (fun h => by cases h), (fun _ h => by cases h)⟩, hA⟩
        · have HP3 : Hid (¬ (2 ≤ e ∧ e ≤ 6)) := hP3
          have hF3 : decide ((2 : Int) ≤ (e : Int) ∧ (e : Int) ≤ 6) = false := decide_eq_false (by omega)
          clear hP3
          go_enter Tryz.func67, Tryz.ntmps67
          go_wp2_with fail
          refine (specIn_any (e : Int) 2 6 _).mono ?_
          rintro _ _ ⟨rfl, rfl⟩
          go_wp2_with fail
          go_ret
          first | exact ⟨false, rfl, iff_no (fun h0 => HP3.out (by have hh := (fit6 _ _ _ _).1 h0.1; exact ⟨hh.2.2.2.1, hh.2.2.2.2⟩)), hA⟩ | exact .inl ⟨rfl, iff_no (fun h0 => HP3.out (by have hh := (fit6 _ _ _ _).1 h0.1; exact ⟨hh.2.2.2.1, hh.2.2.2.2⟩)), hA⟩
      · have HP2 : Hid (¬ (s.size = 0)) := hP2
        have hF2 := empty_no hP2
        clear hP2
        go_enter Tryz.func67, Tryz.ntmps67
        go_wp2_with fail
        go_ret
        first | exact ⟨false, rfl, iff_no (fun h0 => HP2.out (by have hh := (fit6 _ _ _ _).1 h0.1; exact hh.2.2.1)), hA⟩ | exact .inl ⟨rfl, iff_no (fun h0 => HP2.out (by have hh := (fit6 _ _ _ _).1 h0.1; exact hh.2.2.1)), hA⟩
    · have HP1 : Hid (¬ (n = 0)) := hP1
      have hF1 : (n == 0) = false := by simpa using hP1
      clear hP1
      go_enter Tryz.func67, Tryz.ntmps67
      go_wp2_with fail
      go_ret
      first | exact ⟨false, rfl, iff_no (fun h0 => HP1.out (by have hh := (fit6 _ _ _ _).1 h0.1; exact hh.1)), hA⟩ | exact .inl ⟨rfl, iff_no (fun h0 => HP1.out (by have hh := (fit6 _ _ _ _).1 h0.1; exact hh.1)), hA⟩
  · have HP0 : Hid (¬ (c = 0)) := hP0
    have hF0 : (0 : Int) < (c : Int) := by omega
    clear hP0
    go_enter Tryz.func67, Tryz.ntmps67
    go_wp2_with fail
    go_ret
    first | exact ⟨false, rfl, iff_no (fun h0 => HP0.out (by have hh := (fit6 _ _ _ _).1 h0.1; exact hh.2.1)), hA⟩ | exact .inl ⟨rfl, iff_no (fun h0 => HP0.out (by have hh := (fit6 _ _ _ _).1 h0.1; exact hh.2.1)), hA⟩

set_option maxHeartbeats 2000000 in
theorem specFit_false_7 (n : Int) (s : ByteArray) (a3 : Option Addr) (e c3 : Nat) (a4 : Option Addr) (c c4 : Nat) (w : World) (hs : s.size ≤ 9223372036854775807) (he : e ≤ 9223372036854775807) (hc : c ≤ 9223372036854775807) :
    Calls Tryz.prog 67 #[.agg #[.int .i64 7, .int .i64 n, .string s, .slice a3 e c3, .slice a4 c c4], .bool false] w fun r w' => ∃ b : Bool, r = .returned (.bool b) ∧ Hid (b = true ↔ ShX false 7 n s e c) ∧ Below w.heap.size w w' := by
  have hA : Below w.heap.size w (w.alloc (.cells #[.int .i64 7, .int .i64 n, .string s, .slice a3 e c3, .slice a4 c c4] 39)) := (Below.refl _ _).alloc (Nat.le_refl _) _
  by_cases hP0 : c = 0
  · subst hP0
    by_cases hP1 : n = 0
    · subst hP1
      by_cases hP2 : OpP s
      · have HP2 : Hid (OpP s) := hP2
        clear hP2
        by_cases hP3 : e = 2
        · have HP3 : Hid (e = 2) := hP3
          have hF3 : ((e : Int) == 2) = true := by simp; omega
          clear hP3
          go_enter Tryz.func67, Tryz.ntmps67
          go_wp2_with fail
          refine (l4Op_any s _).mono ?_
          rintro _ _ ⟨b, rfl, hb, rfl⟩
          obtain rfl : b = true := hb.out.2 HP2.out
          clear hb
          go_wp2_with fail
          go_ret
          first | exact ⟨true, rfl, iff_yes ⟨(fit7 _ _ _ _).2 ⟨rfl, rfl, HP2.out, HP3.out⟩, (fun h => by cases h), (fun _ h => by cases h)⟩, hA⟩ | exact .inr ⟨rfl, iff_yes ⟨(fit7 _ _ _ _).2 ⟨rfl, rfl, HP2.out, HP3.out⟩, (fun h => by cases h), (fun _ h => by cases h)⟩, hA⟩
        · have HP3 : Hid (¬ (e = 2)) := hP3
          have hF3 : ((e : Int) == 2) = false := by simp; omega
          clear hP3
          go_enter Tryz.func67, Tryz.ntmps67
          go_wp2_with fail
          refine (l4Op_any s _).mono ?_
          rintro _ _ ⟨b, rfl, hb, rfl⟩
          obtain rfl : b = true := hb.out.2 HP2.out
          clear hb
          go_wp2_with fail
          go_ret
          first | exact ⟨false, rfl, iff_no (fun h0 => HP3.out (by have hh := (fit7 _ _ _ _).1 h0.1; exact hh.2.2.2)), hA⟩ | exact .inl ⟨rfl, iff_no (fun h0 => HP3.out (by have hh := (fit7 _ _ _ _).1 h0.1; exact hh.2.2.2)), hA⟩
      · have HP2 : Hid (¬ (OpP s)) := hP2
        clear hP2
        go_enter Tryz.func67, Tryz.ntmps67
        go_wp2_with fail
        refine (l4Op_any s _).mono ?_
        rintro _ _ ⟨b, rfl, hb, rfl⟩
        obtain rfl : b = false := by cases b; exact rfl; exact absurd (hb.out.1 rfl) HP2.out
        clear hb
        go_wp2_with fail
        go_ret
        first | exact ⟨false, rfl, iff_no (fun h0 => HP2.out (by have hh := (fit7 _ _ _ _).1 h0.1; exact hh.2.2.1)), hA⟩ | exact .inl ⟨rfl, iff_no (fun h0 => HP2.out (by have hh := (fit7 _ _ _ _).1 h0.1; exact hh.2.2.1)), hA⟩
    · have HP1 : Hid (¬ (n = 0)) := hP1
      have hF1 : (n == 0) = false := by simpa using hP1
      clear hP1
      go_enter Tryz.func67, Tryz.ntmps67
      go_wp2_with fail
      go_ret
      first | exact ⟨false, rfl, iff_no (fun h0 => HP1.out (by have hh := (fit7 _ _ _ _).1 h0.1; exact hh.1)), hA⟩ | exact .inl ⟨rfl, iff_no (fun h0 => HP1.out (by have hh := (fit7 _ _ _ _).1 h0.1; exact hh.1)), hA⟩
  · have HP0 : Hid (¬ (c = 0)) := hP0
    have hF0 : (0 : Int) < (c : Int) := by omega
    clear hP0
    go_enter Tryz.func67, Tryz.ntmps67
    go_wp2_with fail
    go_ret
    first | exact ⟨false, rfl, iff_no (fun h0 => HP0.out (by have hh := (fit7 _ _ _ _).1 h0.1; exact hh.2.1)), hA⟩ | exact .inl ⟨rfl, iff_no (fun h0 => HP0.out (by have hh := (fit7 _ _ _ _).1 h0.1; exact hh.2.1)), hA⟩

set_option maxHeartbeats 2000000 in
theorem specFit_false_8 (n : Int) (s : ByteArray) (a3 : Option Addr) (e c3 : Nat) (a4 : Option Addr) (c c4 : Nat) (w : World) (hs : s.size ≤ 9223372036854775807) (he : e ≤ 9223372036854775807) (hc : c ≤ 9223372036854775807) :
    Calls Tryz.prog 67 #[.agg #[.int .i64 8, .int .i64 n, .string s, .slice a3 e c3, .slice a4 c c4], .bool false] w fun r w' => ∃ b : Bool, r = .returned (.bool b) ∧ Hid (b = true ↔ ShX false 8 n s e c) ∧ Below w.heap.size w w' := by
  have hA : Below w.heap.size w (w.alloc (.cells #[.int .i64 8, .int .i64 n, .string s, .slice a3 e c3, .slice a4 c c4] 39)) := (Below.refl _ _).alloc (Nat.le_refl _) _
  by_cases hP0 : c = 0
  · subst hP0
    by_cases hP1 : n = 0
    · subst hP1
      by_cases hP2 : AtomP s ∧ ¬ Wrd s
      · have HP2 : Hid (AtomP s ∧ ¬ Wrd s) := hP2
        clear hP2
        by_cases hP3 : e ≤ 4
        · have HP3 : Hid (e ≤ 4) := hP3
          have hF3 : decide ((e : Int) ≤ 4) = true := by simp; omega
          clear hP3
          go_enter Tryz.func67, Tryz.ntmps67
          go_wp2_with fail
          refine (l4Atom_any s _ hs).mono ?_
          rintro _ wv ⟨b, rfl, hb, hwv⟩
          have hA := hA.trans (hwv.mono hA.size)
          obtain rfl : b = true := hb.out.2 HP2.out
          clear hb hwv
          go_wp2_with fail
          go_ret
          first | exact ⟨true, rfl, iff_yes ⟨(fit8 _ _ _ _).2 ⟨rfl, rfl, HP2.out, HP3.out⟩, (fun h => by cases h), (fun _ h => by cases h)⟩, hA⟩ | exact .inr ⟨rfl, iff_yes ⟨(fit8 _ _ _ _).2 ⟨rfl, rfl, HP2.out, HP3.out⟩, (fun h => by cases h), (fun _ h => by cases h)⟩, hA⟩
        · have HP3 : Hid (¬ (e ≤ 4)) := hP3
          have hF3 : decide ((e : Int) ≤ 4) = false := by simp; omega
          clear hP3
          go_enter Tryz.func67, Tryz.ntmps67
          go_wp2_with fail
          refine (l4Atom_any s _ hs).mono ?_
          rintro _ wv ⟨b, rfl, hb, hwv⟩
          have hA := hA.trans (hwv.mono hA.size)
          obtain rfl : b = true := hb.out.2 HP2.out
          clear hb hwv
          go_wp2_with fail
          go_ret
          first | exact ⟨false, rfl, iff_no (fun h0 => HP3.out (by have hh := (fit8 _ _ _ _).1 h0.1; exact hh.2.2.2)), hA⟩ | exact .inl ⟨rfl, iff_no (fun h0 => HP3.out (by have hh := (fit8 _ _ _ _).1 h0.1; exact hh.2.2.2)), hA⟩
      · have HP2 : Hid (¬ (AtomP s ∧ ¬ Wrd s)) := hP2
        clear hP2
        go_enter Tryz.func67, Tryz.ntmps67
        go_wp2_with fail
        refine (l4Atom_any s _ hs).mono ?_
        rintro _ wv ⟨b, rfl, hb, hwv⟩
        have hA := hA.trans (hwv.mono hA.size)
        obtain rfl : b = false := by cases b; exact rfl; exact absurd (hb.out.1 rfl) HP2.out
        clear hb hwv
        go_wp2_with fail
        go_ret
        first | exact ⟨false, rfl, iff_no (fun h0 => HP2.out (by have hh := (fit8 _ _ _ _).1 h0.1; exact hh.2.2.1)), hA⟩ | exact .inl ⟨rfl, iff_no (fun h0 => HP2.out (by have hh := (fit8 _ _ _ _).1 h0.1; exact hh.2.2.1)), hA⟩
    · have HP1 : Hid (¬ (n = 0)) := hP1
      have hF1 : (n == 0) = false := by simpa using hP1
      clear hP1
      go_enter Tryz.func67, Tryz.ntmps67
      go_wp2_with fail
      go_ret
      first | exact ⟨false, rfl, iff_no (fun h0 => HP1.out (by have hh := (fit8 _ _ _ _).1 h0.1; exact hh.1)), hA⟩ | exact .inl ⟨rfl, iff_no (fun h0 => HP1.out (by have hh := (fit8 _ _ _ _).1 h0.1; exact hh.1)), hA⟩
  · have HP0 : Hid (¬ (c = 0)) := hP0
    have hF0 : (0 : Int) < (c : Int) := by omega
    clear hP0
    go_enter Tryz.func67, Tryz.ntmps67
    go_wp2_with fail
    go_ret
    first | exact ⟨false, rfl, iff_no (fun h0 => HP0.out (by have hh := (fit8 _ _ _ _).1 h0.1; exact hh.2.1)), hA⟩ | exact .inl ⟨rfl, iff_no (fun h0 => HP0.out (by have hh := (fit8 _ _ _ _).1 h0.1; exact hh.2.1)), hA⟩

set_option maxHeartbeats 2000000 in
theorem specFit_false_9 (n : Int) (s : ByteArray) (a3 : Option Addr) (e c3 : Nat) (a4 : Option Addr) (c c4 : Nat) (w : World) (hs : s.size ≤ 9223372036854775807) (he : e ≤ 9223372036854775807) (hc : c ≤ 9223372036854775807) :
    Calls Tryz.prog 67 #[.agg #[.int .i64 9, .int .i64 n, .string s, .slice a3 e c3, .slice a4 c c4], .bool false] w fun r w' => ∃ b : Bool, r = .returned (.bool b) ∧ Hid (b = true ↔ ShX false 9 n s e c) ∧ Below w.heap.size w w' := by
  have hA : Below w.heap.size w (w.alloc (.cells #[.int .i64 9, .int .i64 n, .string s, .slice a3 e c3, .slice a4 c c4] 39)) := (Below.refl _ _).alloc (Nat.le_refl _) _
  by_cases hP0 : n = 0
  · subst hP0
    by_cases hP1 : s.size = 0
    · have HP1 : Hid (s.size = 0) := hP1
      have hF1 := (empty_iff s).2 hP1
      clear hP1
      by_cases hP2 : e = 1
      · have HP2 : Hid (e = 1) := hP2
        have hF2 : ((e : Int) == 1) = true := by simp; omega
        clear hP2
        by_cases hP3 : 1 ≤ c ∧ c ≤ 6
        · have HP3 : Hid (1 ≤ c ∧ c ≤ 6) := hP3
          have hF3 : decide ((1 : Int) ≤ (c : Int) ∧ (c : Int) ≤ 6) = true := decide_eq_true (by omega)
          clear hP3
          go_enter Tryz.func67, Tryz.ntmps67
          go_wp2_with fail
          refine (specIn_any (c : Int) 1 6 _).mono ?_
          rintro _ _ ⟨rfl, rfl⟩
          go_wp2_with fail
          go_ret
          first | exact ⟨true, rfl, iff_yes ⟨(fit9 _ _ _ _).2 ⟨rfl, HP1.out, HP2.out, HP3.out.1, HP3.out.2⟩, (fun h => by cases h), (fun _ h => by cases h)⟩, hA⟩ | exact .inr ⟨rfl, iff_yes ⟨(fit9 _ _ _ _).2 ⟨rfl, HP1.out, HP2.out, HP3.out.1, HP3.out.2⟩, (fun h => by cases h), (fun _ h => by cases h)⟩, hA⟩
        · have HP3 : Hid (¬ (1 ≤ c ∧ c ≤ 6)) := hP3
          have hF3 : decide ((1 : Int) ≤ (c : Int) ∧ (c : Int) ≤ 6) = false := decide_eq_false (by omega)
          clear hP3
          go_enter Tryz.func67, Tryz.ntmps67
          go_wp2_with fail
          refine (specIn_any (c : Int) 1 6 _).mono ?_
          rintro _ _ ⟨rfl, rfl⟩
          go_wp2_with fail
          go_ret
          first | exact ⟨false, rfl, iff_no (fun h0 => HP3.out (by have hh := (fit9 _ _ _ _).1 h0.1; exact ⟨hh.2.2.2.1, hh.2.2.2.2⟩)), hA⟩ | exact .inl ⟨rfl, iff_no (fun h0 => HP3.out (by have hh := (fit9 _ _ _ _).1 h0.1; exact ⟨hh.2.2.2.1, hh.2.2.2.2⟩)), hA⟩
      · have HP2 : Hid (¬ (e = 1)) := hP2
        have hF2 : ((e : Int) == 1) = false := by simp; omega
        clear hP2
        go_enter Tryz.func67, Tryz.ntmps67
        go_wp2_with fail
        go_ret
        first | exact ⟨false, rfl, iff_no (fun h0 => HP2.out (by have hh := (fit9 _ _ _ _).1 h0.1; exact hh.2.2.1)), hA⟩ | exact .inl ⟨rfl, iff_no (fun h0 => HP2.out (by have hh := (fit9 _ _ _ _).1 h0.1; exact hh.2.2.1)), hA⟩
    · have HP1 : Hid (¬ (s.size = 0)) := hP1
      have hF1 := empty_no hP1
      clear hP1
      go_enter Tryz.func67, Tryz.ntmps67
      go_wp2_with fail
      go_ret
      first | exact ⟨false, rfl, iff_no (fun h0 => HP1.out (by have hh := (fit9 _ _ _ _).1 h0.1; exact hh.2.1)), hA⟩ | exact .inl ⟨rfl, iff_no (fun h0 => HP1.out (by have hh := (fit9 _ _ _ _).1 h0.1; exact hh.2.1)), hA⟩
  · have HP0 : Hid (¬ (n = 0)) := hP0
    have hF0 : (n == 0) = false := by simpa using hP0
    clear hP0
    go_enter Tryz.func67, Tryz.ntmps67
    go_wp2_with fail
    go_ret
    first | exact ⟨false, rfl, iff_no (fun h0 => HP0.out (by have hh := (fit9 _ _ _ _).1 h0.1; exact hh.1)), hA⟩ | exact .inl ⟨rfl, iff_no (fun h0 => HP0.out (by have hh := (fit9 _ _ _ _).1 h0.1; exact hh.1)), hA⟩

set_option maxHeartbeats 2000000 in
theorem specFit_true_1 (n : Int) (s : ByteArray) (a3 : Option Addr) (e c3 : Nat) (a4 : Option Addr) (c c4 : Nat) (w : World) (hs : s.size ≤ 9223372036854775807) (he : e ≤ 9223372036854775807) (hc : c ≤ 9223372036854775807) :
    Calls Tryz.prog 67 #[.agg #[.int .i64 1, .int .i64 n, .string s, .slice a3 e c3, .slice a4 c c4], .bool true] w fun r w' => ∃ b : Bool, r = .returned (.bool b) ∧ Hid (b = true ↔ ShX true 1 n s e c) ∧ Below w.heap.size w w' := by
  have hA : Below w.heap.size w (w.alloc (.cells #[.int .i64 1, .int .i64 n, .string s, .slice a3 e c3, .slice a4 c c4] 39)) := (Below.refl _ _).alloc (Nat.le_refl _) _
  by_cases hP0 : c = 0
  · subst hP0
    by_cases hP1 : 0 ≤ n ∧ n ≤ 1000000000000
    · have HP1 : Hid (0 ≤ n ∧ n ≤ 1000000000000) := hP1
      have hF1 : decide ((0 : Int) ≤ n ∧ n ≤ 1000000000000) = true := decide_eq_true hP1
      clear hP1
      by_cases hP2 : s.size = 0
      · have HP2 : Hid (s.size = 0) := hP2
        have hF2 := (empty_iff s).2 hP2
        clear hP2
        by_cases hP3 : e = 0
        · have HP3 : Hid (e = 0) := hP3
          have hF3 : ((e : Int) == 0) = true := by simp [hP3]
          clear hP3
          go_enter Tryz.func67, Tryz.ntmps67
          go_wp2_with fail
          refine (specIn_any n 0 1000000000000 _).mono ?_
          rintro _ _ ⟨rfl, rfl⟩
          go_wp2_with fail
          go_ret
          first | exact ⟨true, rfl, iff_yes ⟨(fit1 _ _ _ _).2 ⟨rfl, HP1.out.1, HP1.out.2, HP2.out, HP3.out⟩, fun _ => by decide, (fun h => by cases h)⟩, hA⟩ | exact .inr ⟨rfl, iff_yes ⟨(fit1 _ _ _ _).2 ⟨rfl, HP1.out.1, HP1.out.2, HP2.out, HP3.out⟩, (fun _ => by decide), (fun h => by cases h)⟩, hA⟩
        · have HP3 : Hid (¬ (e = 0)) := hP3
          have hF3 : ((e : Int) == 0) = false := by simp [hP3]
          clear hP3
          go_enter Tryz.func67, Tryz.ntmps67
          go_wp2_with fail
          refine (specIn_any n 0 1000000000000 _).mono ?_
          rintro _ _ ⟨rfl, rfl⟩
          go_wp2_with fail
          go_ret
          first | exact ⟨false, rfl, iff_no (fun h0 => HP3.out (by have hh := (fit1 _ _ _ _).1 h0.1; exact hh.2.2.2.2)), hA⟩ | exact .inl ⟨rfl, iff_no (fun h0 => HP3.out (by have hh := (fit1 _ _ _ _).1 h0.1; exact hh.2.2.2.2)), hA⟩
      · have HP2 : Hid (¬ (s.size = 0)) := hP2
        have hF2 := empty_no hP2
        clear hP2
        go_enter Tryz.func67, Tryz.ntmps67
        go_wp2_with fail
        refine (specIn_any n 0 1000000000000 _).mono ?_
        rintro _ _ ⟨rfl, rfl⟩
        go_wp2_with fail
        go_ret
        first | exact ⟨false, rfl, iff_no (fun h0 => HP2.out (by have hh := (fit1 _ _ _ _).1 h0.1; exact hh.2.2.2.1)), hA⟩ | exact .inl ⟨rfl, iff_no (fun h0 => HP2.out (by have hh := (fit1 _ _ _ _).1 h0.1; exact hh.2.2.2.1)), hA⟩
    · have HP1 : Hid (¬ (0 ≤ n ∧ n ≤ 1000000000000)) := hP1
      have hF1 : decide ((0 : Int) ≤ n ∧ n ≤ 1000000000000) = false := decide_eq_false hP1
      clear hP1
      go_enter Tryz.func67, Tryz.ntmps67
      go_wp2_with fail
      refine (specIn_any n 0 1000000000000 _).mono ?_
      rintro _ _ ⟨rfl, rfl⟩
      go_wp2_with fail
      go_ret
      first | exact ⟨false, rfl, iff_no (fun h0 => HP1.out (by have hh := (fit1 _ _ _ _).1 h0.1; exact ⟨hh.2.1, hh.2.2.1⟩)), hA⟩ | exact .inl ⟨rfl, iff_no (fun h0 => HP1.out (by have hh := (fit1 _ _ _ _).1 h0.1; exact ⟨hh.2.1, hh.2.2.1⟩)), hA⟩
  · have HP0 : Hid (¬ (c = 0)) := hP0
    have hF0 : (0 : Int) < (c : Int) := by omega
    clear hP0
    go_enter Tryz.func67, Tryz.ntmps67
    go_wp2_with fail
    go_ret
    first | exact ⟨false, rfl, iff_no (fun h0 => HP0.out (by have hh := (fit1 _ _ _ _).1 h0.1; exact hh.1)), hA⟩ | exact .inl ⟨rfl, iff_no (fun h0 => HP0.out (by have hh := (fit1 _ _ _ _).1 h0.1; exact hh.1)), hA⟩

set_option maxHeartbeats 2000000 in
theorem specFit_true_2 (n : Int) (s : ByteArray) (a3 : Option Addr) (e c3 : Nat) (a4 : Option Addr) (c c4 : Nat) (w : World) (hs : s.size ≤ 9223372036854775807) (he : e ≤ 9223372036854775807) (hc : c ≤ 9223372036854775807) :
    Calls Tryz.prog 67 #[.agg #[.int .i64 2, .int .i64 n, .string s, .slice a3 e c3, .slice a4 c c4], .bool true] w fun r w' => ∃ b : Bool, r = .returned (.bool b) ∧ Hid (b = true ↔ ShX true 2 n s e c) ∧ Below w.heap.size w w' := by
  have hA : Below w.heap.size w (w.alloc (.cells #[.int .i64 2, .int .i64 n, .string s, .slice a3 e c3, .slice a4 c c4] 39)) := (Below.refl _ _).alloc (Nat.le_refl _) _
  by_cases hP0 : c = 0
  · subst hP0
    by_cases hP1 : n = 0
    · subst hP1
      by_cases hP2 : AtomP s ∧ ¬ Wrd s
      · have HP2 : Hid (AtomP s ∧ ¬ Wrd s) := hP2
        clear hP2
        by_cases hP3 : e = 0
        · have HP3 : Hid (e = 0) := hP3
          have hF3 : ((e : Int) == 0) = true := by simp [hP3]
          clear hP3
          go_enter Tryz.func67, Tryz.ntmps67
          go_wp2_with fail
          refine (l4Atom_any s _ hs).mono ?_
          rintro _ wv ⟨b, rfl, hb, hwv⟩
          have hA := hA.trans (hwv.mono hA.size)
          obtain rfl : b = true := hb.out.2 HP2.out
          clear hb hwv
          go_wp2_with fail
          go_ret
          first | exact ⟨true, rfl, iff_yes ⟨(fit2 _ _ _ _).2 ⟨rfl, rfl, HP2.out, HP3.out⟩, fun _ => by decide, (fun h => by cases h)⟩, hA⟩ | exact .inr ⟨rfl, iff_yes ⟨(fit2 _ _ _ _).2 ⟨rfl, rfl, HP2.out, HP3.out⟩, (fun _ => by decide), (fun h => by cases h)⟩, hA⟩
        · have HP3 : Hid (¬ (e = 0)) := hP3
          have hF3 : ((e : Int) == 0) = false := by simp [hP3]
          clear hP3
          go_enter Tryz.func67, Tryz.ntmps67
          go_wp2_with fail
          refine (l4Atom_any s _ hs).mono ?_
          rintro _ wv ⟨b, rfl, hb, hwv⟩
          have hA := hA.trans (hwv.mono hA.size)
          obtain rfl : b = true := hb.out.2 HP2.out
          clear hb hwv
          go_wp2_with fail
          go_ret
          first | exact ⟨false, rfl, iff_no (fun h0 => HP3.out (by have hh := (fit2 _ _ _ _).1 h0.1; exact hh.2.2.2)), hA⟩ | exact .inl ⟨rfl, iff_no (fun h0 => HP3.out (by have hh := (fit2 _ _ _ _).1 h0.1; exact hh.2.2.2)), hA⟩
      · have HP2 : Hid (¬ (AtomP s ∧ ¬ Wrd s)) := hP2
        clear hP2
        go_enter Tryz.func67, Tryz.ntmps67
        go_wp2_with fail
        refine (l4Atom_any s _ hs).mono ?_
        rintro _ wv ⟨b, rfl, hb, hwv⟩
        have hA := hA.trans (hwv.mono hA.size)
        obtain rfl : b = false := by cases b; exact rfl; exact absurd (hb.out.1 rfl) HP2.out
        clear hb hwv
        go_wp2_with fail
        go_ret
        first | exact ⟨false, rfl, iff_no (fun h0 => HP2.out (by have hh := (fit2 _ _ _ _).1 h0.1; exact hh.2.2.1)), hA⟩ | exact .inl ⟨rfl, iff_no (fun h0 => HP2.out (by have hh := (fit2 _ _ _ _).1 h0.1; exact hh.2.2.1)), hA⟩
    · have HP1 : Hid (¬ (n = 0)) := hP1
      have hF1 : (n == 0) = false := by simpa using hP1
      clear hP1
      go_enter Tryz.func67, Tryz.ntmps67
      go_wp2_with fail
      go_ret
      first | exact ⟨false, rfl, iff_no (fun h0 => HP1.out (by have hh := (fit2 _ _ _ _).1 h0.1; exact hh.1)), hA⟩ | exact .inl ⟨rfl, iff_no (fun h0 => HP1.out (by have hh := (fit2 _ _ _ _).1 h0.1; exact hh.1)), hA⟩
  · have HP0 : Hid (¬ (c = 0)) := hP0
    have hF0 : (0 : Int) < (c : Int) := by omega
    clear hP0
    go_enter Tryz.func67, Tryz.ntmps67
    go_wp2_with fail
    go_ret
    first | exact ⟨false, rfl, iff_no (fun h0 => HP0.out (by have hh := (fit2 _ _ _ _).1 h0.1; exact hh.2.1)), hA⟩ | exact .inl ⟨rfl, iff_no (fun h0 => HP0.out (by have hh := (fit2 _ _ _ _).1 h0.1; exact hh.2.1)), hA⟩

set_option maxHeartbeats 2000000 in
theorem specFit_true_3 (n : Int) (s : ByteArray) (a3 : Option Addr) (e c3 : Nat) (a4 : Option Addr) (c c4 : Nat) (w : World) (hs : s.size ≤ 9223372036854775807) (he : e ≤ 9223372036854775807) (hc : c ≤ 9223372036854775807) :
    Calls Tryz.prog 67 #[.agg #[.int .i64 3, .int .i64 n, .string s, .slice a3 e c3, .slice a4 c c4], .bool true] w fun r w' => ∃ b : Bool, r = .returned (.bool b) ∧ Hid (b = true ↔ ShX true 3 n s e c) ∧ Below w.heap.size w w' := by
  have hA : Below w.heap.size w (w.alloc (.cells #[.int .i64 3, .int .i64 n, .string s, .slice a3 e c3, .slice a4 c c4] 39)) := (Below.refl _ _).alloc (Nat.le_refl _) _
  by_cases hP0 : c = 0
  · subst hP0
    by_cases hP1 : n = 0
    · subst hP1
      by_cases hP2 : NameP s
      · have HP2 : Hid (NameP s) := hP2
        clear hP2
        by_cases hP3 : e = 0
        · have HP3 : Hid (e = 0) := hP3
          have hF3 : ((e : Int) == 0) = true := by simp [hP3]
          clear hP3
          go_enter Tryz.func67, Tryz.ntmps67
          go_wp2_with fail
          refine (specVarOk_any s _ hs).mono ?_
          rintro _ _ ⟨b, rfl, hb, rfl⟩
          obtain rfl : b = true := hb.2 HP2.out
          clear hb
          go_wp2_with fail
          go_ret
          first | exact ⟨true, rfl, iff_yes ⟨(fit3 _ _ _ _).2 ⟨rfl, rfl, HP2.out, HP3.out⟩, fun _ => by decide, (fun h => by cases h)⟩, hA⟩ | exact .inr ⟨rfl, iff_yes ⟨(fit3 _ _ _ _).2 ⟨rfl, rfl, HP2.out, HP3.out⟩, (fun _ => by decide), (fun h => by cases h)⟩, hA⟩
        · have HP3 : Hid (¬ (e = 0)) := hP3
          have hF3 : ((e : Int) == 0) = false := by simp [hP3]
          clear hP3
          go_enter Tryz.func67, Tryz.ntmps67
          go_wp2_with fail
          refine (specVarOk_any s _ hs).mono ?_
          rintro _ _ ⟨b, rfl, hb, rfl⟩
          obtain rfl : b = true := hb.2 HP2.out
          clear hb
          go_wp2_with fail
          go_ret
          first | exact ⟨false, rfl, iff_no (fun h0 => HP3.out (by have hh := (fit3 _ _ _ _).1 h0.1; exact hh.2.2.2)), hA⟩ | exact .inl ⟨rfl, iff_no (fun h0 => HP3.out (by have hh := (fit3 _ _ _ _).1 h0.1; exact hh.2.2.2)), hA⟩
      · have HP2 : Hid (¬ (NameP s)) := hP2
        clear hP2
        go_enter Tryz.func67, Tryz.ntmps67
        go_wp2_with fail
        refine (specVarOk_any s _ hs).mono ?_
        rintro _ _ ⟨b, rfl, hb, rfl⟩
        obtain rfl : b = false := by cases b; exact rfl; exact absurd (hb.1 rfl) HP2.out
        clear hb
        go_wp2_with fail
        go_ret
        first | exact ⟨false, rfl, iff_no (fun h0 => HP2.out (by have hh := (fit3 _ _ _ _).1 h0.1; exact hh.2.2.1)), hA⟩ | exact .inl ⟨rfl, iff_no (fun h0 => HP2.out (by have hh := (fit3 _ _ _ _).1 h0.1; exact hh.2.2.1)), hA⟩
    · have HP1 : Hid (¬ (n = 0)) := hP1
      have hF1 : (n == 0) = false := by simpa using hP1
      clear hP1
      go_enter Tryz.func67, Tryz.ntmps67
      go_wp2_with fail
      go_ret
      first | exact ⟨false, rfl, iff_no (fun h0 => HP1.out (by have hh := (fit3 _ _ _ _).1 h0.1; exact hh.1)), hA⟩ | exact .inl ⟨rfl, iff_no (fun h0 => HP1.out (by have hh := (fit3 _ _ _ _).1 h0.1; exact hh.1)), hA⟩
  · have HP0 : Hid (¬ (c = 0)) := hP0
    have hF0 : (0 : Int) < (c : Int) := by omega
    clear hP0
    go_enter Tryz.func67, Tryz.ntmps67
    go_wp2_with fail
    go_ret
    first | exact ⟨false, rfl, iff_no (fun h0 => HP0.out (by have hh := (fit3 _ _ _ _).1 h0.1; exact hh.2.1)), hA⟩ | exact .inl ⟨rfl, iff_no (fun h0 => HP0.out (by have hh := (fit3 _ _ _ _).1 h0.1; exact hh.2.1)), hA⟩

set_option maxHeartbeats 2000000 in
theorem specFit_true_4 (n : Int) (s : ByteArray) (a3 : Option Addr) (e c3 : Nat) (a4 : Option Addr) (c c4 : Nat) (w : World) (hs : s.size ≤ 9223372036854775807) (he : e ≤ 9223372036854775807) (hc : c ≤ 9223372036854775807) :
    Calls Tryz.prog 67 #[.agg #[.int .i64 4, .int .i64 n, .string s, .slice a3 e c3, .slice a4 c c4], .bool true] w fun r w' => ∃ b : Bool, r = .returned (.bool b) ∧ Hid (b = true ↔ ShX true 4 n s e c) ∧ Below w.heap.size w w' := by
  have hA : Below w.heap.size w (w.alloc (.cells #[.int .i64 4, .int .i64 n, .string s, .slice a3 e c3, .slice a4 c c4] 39)) := (Below.refl _ _).alloc (Nat.le_refl _) _
  by_cases hP0 : c = 0
  · subst hP0
    by_cases hP1 : n = 0
    · subst hP1
      by_cases hP2 : s.size = 0
      · have HP2 : Hid (s.size = 0) := hP2
        have hF2 := (empty_iff s).2 hP2
        clear hP2
        by_cases hP3 : e ≤ 20
        · have HP3 : Hid (e ≤ 20) := hP3
          have hF3 : decide ((e : Int) ≤ 20) = true := by simp; omega
          clear hP3
          go_enter Tryz.func67, Tryz.ntmps67
          go_wp2_with fail
          go_ret
          first | exact ⟨true, rfl, iff_yes ⟨(fit4 _ _ _ _).2 ⟨rfl, rfl, HP2.out, HP3.out⟩, fun _ => by decide, (fun h => by cases h)⟩, hA⟩ | exact .inr ⟨rfl, iff_yes ⟨(fit4 _ _ _ _).2 ⟨rfl, rfl, HP2.out, HP3.out⟩, (fun _ => by decide), (fun h => by cases h)⟩, hA⟩
        · have HP3 : Hid (¬ (e ≤ 20)) := hP3
          have hF3 : decide ((e : Int) ≤ 20) = false := by simp; omega
          clear hP3
          go_enter Tryz.func67, Tryz.ntmps67
          go_wp2_with fail
          go_ret
          first | exact ⟨false, rfl, iff_no (fun h0 => HP3.out (by have hh := (fit4 _ _ _ _).1 h0.1; exact hh.2.2.2)), hA⟩ | exact .inl ⟨rfl, iff_no (fun h0 => HP3.out (by have hh := (fit4 _ _ _ _).1 h0.1; exact hh.2.2.2)), hA⟩
      · have HP2 : Hid (¬ (s.size = 0)) := hP2
        have hF2 := empty_no hP2
        clear hP2
        go_enter Tryz.func67, Tryz.ntmps67
        go_wp2_with fail
        go_ret
        first | exact ⟨false, rfl, iff_no (fun h0 => HP2.out (by have hh := (fit4 _ _ _ _).1 h0.1; exact hh.2.2.1)), hA⟩ | exact .inl ⟨rfl, iff_no (fun h0 => HP2.out (by have hh := (fit4 _ _ _ _).1 h0.1; exact hh.2.2.1)), hA⟩
    · have HP1 : Hid (¬ (n = 0)) := hP1
      have hF1 : (n == 0) = false := by simpa using hP1
      clear hP1
      go_enter Tryz.func67, Tryz.ntmps67
      go_wp2_with fail
      go_ret
      first | exact ⟨false, rfl, iff_no (fun h0 => HP1.out (by have hh := (fit4 _ _ _ _).1 h0.1; exact hh.1)), hA⟩ | exact .inl ⟨rfl, iff_no (fun h0 => HP1.out (by have hh := (fit4 _ _ _ _).1 h0.1; exact hh.1)), hA⟩
  · have HP0 : Hid (¬ (c = 0)) := hP0
    have hF0 : (0 : Int) < (c : Int) := by omega
    clear hP0
    go_enter Tryz.func67, Tryz.ntmps67
    go_wp2_with fail
    go_ret
    first | exact ⟨false, rfl, iff_no (fun h0 => HP0.out (by have hh := (fit4 _ _ _ _).1 h0.1; exact hh.2.1)), hA⟩ | exact .inl ⟨rfl, iff_no (fun h0 => HP0.out (by have hh := (fit4 _ _ _ _).1 h0.1; exact hh.2.1)), hA⟩

set_option maxHeartbeats 2000000 in
theorem specFit_true_5 (n : Int) (s : ByteArray) (a3 : Option Addr) (e c3 : Nat) (a4 : Option Addr) (c c4 : Nat) (w : World) (hs : s.size ≤ 9223372036854775807) (he : e ≤ 9223372036854775807) (hc : c ≤ 9223372036854775807) :
    Calls Tryz.prog 67 #[.agg #[.int .i64 5, .int .i64 n, .string s, .slice a3 e c3, .slice a4 c c4], .bool true] w fun r w' => ∃ b : Bool, r = .returned (.bool b) ∧ Hid (b = true ↔ ShX true 5 n s e c) ∧ Below w.heap.size w w' := by
  have hA : Below w.heap.size w (w.alloc (.cells #[.int .i64 5, .int .i64 n, .string s, .slice a3 e c3, .slice a4 c c4] 39)) := (Below.refl _ _).alloc (Nat.le_refl _) _
  by_cases hP0 : c = 0
  · subst hP0
    by_cases hP1 : n = 0
    · subst hP1
      by_cases hP2 : s.size = 0
      · have HP2 : Hid (s.size = 0) := hP2
        have hF2 := (empty_iff s).2 hP2
        clear hP2
        by_cases hP3 : e ≤ 20
        · have HP3 : Hid (e ≤ 20) := hP3
          have hF3 : decide ((e : Int) ≤ 20) = true := by simp; omega
          clear hP3
          go_enter Tryz.func67, Tryz.ntmps67
          go_wp2_with fail
          go_ret
          first | exact ⟨true, rfl, iff_yes ⟨(fit5 _ _ _ _).2 ⟨rfl, rfl, HP2.out, HP3.out⟩, fun _ => by decide, (fun h => by cases h)⟩, hA⟩ | exact .inr ⟨rfl, iff_yes ⟨(fit5 _ _ _ _).2 ⟨rfl, rfl, HP2.out, HP3.out⟩, (fun _ => by decide), (fun h => by cases h)⟩, hA⟩
        · have HP3 : Hid (¬ (e ≤ 20)) := hP3
          have hF3 : decide ((e : Int) ≤ 20) = false := by simp; omega
          clear hP3
          go_enter Tryz.func67, Tryz.ntmps67
          go_wp2_with fail
          go_ret
          first | exact ⟨false, rfl, iff_no (fun h0 => HP3.out (by have hh := (fit5 _ _ _ _).1 h0.1; exact hh.2.2.2)), hA⟩ | exact .inl ⟨rfl, iff_no (fun h0 => HP3.out (by have hh := (fit5 _ _ _ _).1 h0.1; exact hh.2.2.2)), hA⟩
      · have HP2 : Hid (¬ (s.size = 0)) := hP2
        have hF2 := empty_no hP2
        clear hP2
        go_enter Tryz.func67, Tryz.ntmps67
        go_wp2_with fail
        go_ret
        first | exact ⟨false, rfl, iff_no (fun h0 => HP2.out (by have hh := (fit5 _ _ _ _).1 h0.1; exact hh.2.2.1)), hA⟩ | exact .inl ⟨rfl, iff_no (fun h0 => HP2.out (by have hh := (fit5 _ _ _ _).1 h0.1; exact hh.2.2.1)), hA⟩
    · have HP1 : Hid (¬ (n = 0)) := hP1
      have hF1 : (n == 0) = false := by simpa using hP1
      clear hP1
      go_enter Tryz.func67, Tryz.ntmps67
      go_wp2_with fail
      go_ret
      first | exact ⟨false, rfl, iff_no (fun h0 => HP1.out (by have hh := (fit5 _ _ _ _).1 h0.1; exact hh.1)), hA⟩ | exact .inl ⟨rfl, iff_no (fun h0 => HP1.out (by have hh := (fit5 _ _ _ _).1 h0.1; exact hh.1)), hA⟩
  · have HP0 : Hid (¬ (c = 0)) := hP0
    have hF0 : (0 : Int) < (c : Int) := by omega
    clear hP0
    go_enter Tryz.func67, Tryz.ntmps67
    go_wp2_with fail
    go_ret
    first | exact ⟨false, rfl, iff_no (fun h0 => HP0.out (by have hh := (fit5 _ _ _ _).1 h0.1; exact hh.2.1)), hA⟩ | exact .inl ⟨rfl, iff_no (fun h0 => HP0.out (by have hh := (fit5 _ _ _ _).1 h0.1; exact hh.2.1)), hA⟩

set_option maxHeartbeats 2000000 in
theorem specFit_true_6 (n : Int) (s : ByteArray) (a3 : Option Addr) (e c3 : Nat) (a4 : Option Addr) (c c4 : Nat) (w : World) (hs : s.size ≤ 9223372036854775807) (he : e ≤ 9223372036854775807) (hc : c ≤ 9223372036854775807) :
    Calls Tryz.prog 67 #[.agg #[.int .i64 6, .int .i64 n, .string s, .slice a3 e c3, .slice a4 c c4], .bool true] w fun r w' => ∃ b : Bool, r = .returned (.bool b) ∧ Hid (b = true ↔ ShX true 6 n s e c) ∧ Below w.heap.size w w' := by
  have hA : Below w.heap.size w (w.alloc (.cells #[.int .i64 6, .int .i64 n, .string s, .slice a3 e c3, .slice a4 c c4] 39)) := (Below.refl _ _).alloc (Nat.le_refl _) _
  by_cases hP0 : c = 0
  · subst hP0
    by_cases hP1 : n = 0
    · subst hP1
      by_cases hP2 : s.size = 0
      · have HP2 : Hid (s.size = 0) := hP2
        have hF2 := (empty_iff s).2 hP2
        clear hP2
        by_cases hP3 : 2 ≤ e ∧ e ≤ 6
        · have HP3 : Hid (2 ≤ e ∧ e ≤ 6) := hP3
          have hF3 : decide ((2 : Int) ≤ (e : Int) ∧ (e : Int) ≤ 6) = true := decide_eq_true (by omega)
          clear hP3
          go_enter Tryz.func67, Tryz.ntmps67
          go_wp2_with fail
          refine (specIn_any (e : Int) 2 6 _).mono ?_
          rintro _ _ ⟨rfl, rfl⟩
          go_wp2_with fail
          go_ret
          first | exact ⟨true, rfl, iff_yes ⟨(fit6 _ _ _ _).2 ⟨rfl, rfl, HP2.out, HP3.out.1, HP3.out.2⟩, fun _ => by decide, (fun h => by cases h)⟩, hA⟩ | exact .inr ⟨rfl, iff_yes ⟨(fit6 _ _ _ _).2 ⟨rfl, rfl, HP2.out, HP3.out.1, HP3.out.2⟩, (fun _ => by decide), (fun h => by cases h)⟩, hA⟩
        · have HP3 : Hid (¬ (2 ≤ e ∧ e ≤ 6)) := hP3
          have hF3 : decide ((2 : Int) ≤ (e : Int) ∧ (e : Int) ≤ 6) = false := decide_eq_false (by omega)
          clear hP3
          go_enter Tryz.func67, Tryz.ntmps67
          go_wp2_with fail
          refine (specIn_any (e : Int) 2 6 _).mono ?_
          rintro _ _ ⟨rfl, rfl⟩
          go_wp2_with fail
          go_ret
          first | exact ⟨false, rfl, iff_no (fun h0 => HP3.out (by have hh := (fit6 _ _ _ _).1 h0.1; exact ⟨hh.2.2.2.1, hh.2.2.2.2⟩)), hA⟩ | exact .inl ⟨rfl, iff_no (fun h0 => HP3.out (by have hh := (fit6 _ _ _ _).1 h0.1; exact ⟨hh.2.2.2.1, hh.2.2.2.2⟩)), hA⟩
      · have HP2 : Hid (¬ (s.size = 0)) := hP2
        have hF2 := empty_no hP2
        clear hP2
        go_enter Tryz.func67, Tryz.ntmps67
        go_wp2_with fail
        go_ret
        first | exact ⟨false, rfl, iff_no (fun h0 => HP2.out (by have hh := (fit6 _ _ _ _).1 h0.1; exact hh.2.2.1)), hA⟩ | exact .inl ⟨rfl, iff_no (fun h0 => HP2.out (by have hh := (fit6 _ _ _ _).1 h0.1; exact hh.2.2.1)), hA⟩
    · have HP1 : Hid (¬ (n = 0)) := hP1
      have hF1 : (n == 0) = false := by simpa using hP1
      clear hP1
      go_enter Tryz.func67, Tryz.ntmps67
      go_wp2_with fail
      go_ret
      first | exact ⟨false, rfl, iff_no (fun h0 => HP1.out (by have hh := (fit6 _ _ _ _).1 h0.1; exact hh.1)), hA⟩ | exact .inl ⟨rfl, iff_no (fun h0 => HP1.out (by have hh := (fit6 _ _ _ _).1 h0.1; exact hh.1)), hA⟩
  · have HP0 : Hid (¬ (c = 0)) := hP0
    have hF0 : (0 : Int) < (c : Int) := by omega
    clear hP0
    go_enter Tryz.func67, Tryz.ntmps67
    go_wp2_with fail
    go_ret
    first | exact ⟨false, rfl, iff_no (fun h0 => HP0.out (by have hh := (fit6 _ _ _ _).1 h0.1; exact hh.2.1)), hA⟩ | exact .inl ⟨rfl, iff_no (fun h0 => HP0.out (by have hh := (fit6 _ _ _ _).1 h0.1; exact hh.2.1)), hA⟩

set_option maxHeartbeats 2000000 in
theorem specFit_true_7 (n : Int) (s : ByteArray) (a3 : Option Addr) (e c3 : Nat) (a4 : Option Addr) (c c4 : Nat) (w : World) (hs : s.size ≤ 9223372036854775807) (he : e ≤ 9223372036854775807) (hc : c ≤ 9223372036854775807) :
    Calls Tryz.prog 67 #[.agg #[.int .i64 7, .int .i64 n, .string s, .slice a3 e c3, .slice a4 c c4], .bool true] w fun r w' => ∃ b : Bool, r = .returned (.bool b) ∧ Hid (b = true ↔ ShX true 7 n s e c) ∧ Below w.heap.size w w' := by
  have hA : Below w.heap.size w (w.alloc (.cells #[.int .i64 7, .int .i64 n, .string s, .slice a3 e c3, .slice a4 c c4] 39)) := (Below.refl _ _).alloc (Nat.le_refl _) _
  by_cases hP0 : c = 0
  · subst hP0
    by_cases hP1 : n = 0
    · subst hP1
      go_enter Tryz.func67, Tryz.ntmps67
      go_wp2_with fail
      go_ret
      first | exact ⟨false, rfl, iff_no (fun h0 => by have := h0.2.1 rfl; revert this; decide), hA⟩ | exact .inl ⟨rfl, iff_no (fun h0 => by have := h0.2.1 rfl; revert this; decide), hA⟩
    · have HP1 : Hid (¬ (n = 0)) := hP1
      have hF1 : (n == 0) = false := by simpa using hP1
      clear hP1
      go_enter Tryz.func67, Tryz.ntmps67
      go_wp2_with fail
      go_ret
      first | exact ⟨false, rfl, iff_no (fun h0 => HP1.out (by have hh := (fit7 _ _ _ _).1 h0.1; exact hh.1)), hA⟩ | exact .inl ⟨rfl, iff_no (fun h0 => HP1.out (by have hh := (fit7 _ _ _ _).1 h0.1; exact hh.1)), hA⟩
  · have HP0 : Hid (¬ (c = 0)) := hP0
    have hF0 : (0 : Int) < (c : Int) := by omega
    clear hP0
    go_enter Tryz.func67, Tryz.ntmps67
    go_wp2_with fail
    go_ret
    first | exact ⟨false, rfl, iff_no (fun h0 => HP0.out (by have hh := (fit7 _ _ _ _).1 h0.1; exact hh.2.1)), hA⟩ | exact .inl ⟨rfl, iff_no (fun h0 => HP0.out (by have hh := (fit7 _ _ _ _).1 h0.1; exact hh.2.1)), hA⟩

set_option maxHeartbeats 2000000 in
theorem specFit_true_8 (n : Int) (s : ByteArray) (a3 : Option Addr) (e c3 : Nat) (a4 : Option Addr) (c c4 : Nat) (w : World) (hs : s.size ≤ 9223372036854775807) (he : e ≤ 9223372036854775807) (hc : c ≤ 9223372036854775807) :
    Calls Tryz.prog 67 #[.agg #[.int .i64 8, .int .i64 n, .string s, .slice a3 e c3, .slice a4 c c4], .bool true] w fun r w' => ∃ b : Bool, r = .returned (.bool b) ∧ Hid (b = true ↔ ShX true 8 n s e c) ∧ Below w.heap.size w w' := by
  have hA : Below w.heap.size w (w.alloc (.cells #[.int .i64 8, .int .i64 n, .string s, .slice a3 e c3, .slice a4 c c4] 39)) := (Below.refl _ _).alloc (Nat.le_refl _) _
  by_cases hP0 : c = 0
  · subst hP0
    by_cases hP1 : n = 0
    · subst hP1
      go_enter Tryz.func67, Tryz.ntmps67
      go_wp2_with fail
      go_ret
      first | exact ⟨false, rfl, iff_no (fun h0 => by have := h0.2.1 rfl; revert this; decide), hA⟩ | exact .inl ⟨rfl, iff_no (fun h0 => by have := h0.2.1 rfl; revert this; decide), hA⟩
    · have HP1 : Hid (¬ (n = 0)) := hP1
      have hF1 : (n == 0) = false := by simpa using hP1
      clear hP1
      go_enter Tryz.func67, Tryz.ntmps67
      go_wp2_with fail
      go_ret
      first | exact ⟨false, rfl, iff_no (fun h0 => HP1.out (by have hh := (fit8 _ _ _ _).1 h0.1; exact hh.1)), hA⟩ | exact .inl ⟨rfl, iff_no (fun h0 => HP1.out (by have hh := (fit8 _ _ _ _).1 h0.1; exact hh.1)), hA⟩
  · have HP0 : Hid (¬ (c = 0)) := hP0
    have hF0 : (0 : Int) < (c : Int) := by omega
    clear hP0
    go_enter Tryz.func67, Tryz.ntmps67
    go_wp2_with fail
    go_ret
    first | exact ⟨false, rfl, iff_no (fun h0 => HP0.out (by have hh := (fit8 _ _ _ _).1 h0.1; exact hh.2.1)), hA⟩ | exact .inl ⟨rfl, iff_no (fun h0 => HP0.out (by have hh := (fit8 _ _ _ _).1 h0.1; exact hh.2.1)), hA⟩

set_option maxHeartbeats 2000000 in
theorem specFit_true_9 (n : Int) (s : ByteArray) (a3 : Option Addr) (e c3 : Nat) (a4 : Option Addr) (c c4 : Nat) (w : World) (hs : s.size ≤ 9223372036854775807) (he : e ≤ 9223372036854775807) (hc : c ≤ 9223372036854775807) :
    Calls Tryz.prog 67 #[.agg #[.int .i64 9, .int .i64 n, .string s, .slice a3 e c3, .slice a4 c c4], .bool true] w fun r w' => ∃ b : Bool, r = .returned (.bool b) ∧ Hid (b = true ↔ ShX true 9 n s e c) ∧ Below w.heap.size w w' := by
  have hA : Below w.heap.size w (w.alloc (.cells #[.int .i64 9, .int .i64 n, .string s, .slice a3 e c3, .slice a4 c c4] 39)) := (Below.refl _ _).alloc (Nat.le_refl _) _
  by_cases hP0 : n = 0
  · subst hP0
    go_enter Tryz.func67, Tryz.ntmps67
    go_wp2_with fail
    go_ret
    first | exact ⟨false, rfl, iff_no (fun h0 => by have := h0.2.1 rfl; revert this; decide), hA⟩ | exact .inl ⟨rfl, iff_no (fun h0 => by have := h0.2.1 rfl; revert this; decide), hA⟩
  · have HP0 : Hid (¬ (n = 0)) := hP0
    have hF0 : (n == 0) = false := by simpa using hP0
    clear hP0
    go_enter Tryz.func67, Tryz.ntmps67
    go_wp2_with fail
    go_ret
    first | exact ⟨false, rfl, iff_no (fun h0 => HP0.out (by have hh := (fit9 _ _ _ _).1 h0.1; exact hh.1)), hA⟩ | exact .inl ⟨rfl, iff_no (fun h0 => HP0.out (by have hh := (fit9 _ _ _ _).1 h0.1; exact hh.1)), hA⟩

end Go.Proofs.YtgeedoeaepcmcaaGreatDoor
