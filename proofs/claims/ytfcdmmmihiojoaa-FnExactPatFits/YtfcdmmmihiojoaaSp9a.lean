/- Patterns by slots: their shapes, and the model's walk over them. -/
import Derived.Test.YtfcdmmmihiojoaaLook
import Derived.Test.YtfcdmmmihiojoaaDtPat
import Derived.Test.YtfcdmmmihiojoaaFx3
import Derived.Test.YtfcdmmmihiojoaaLo1
namespace Go.Proofs.Ytfcdmmmihiojoaa
open Go.RowKit
set_option linter.unusedVariables false

/-- The shape of a pattern by slots. -/
def ShapeQ (sl k n : Int) (s : ByteArray) (len : Nat) : Prop :=
  (k = 1 ∧ (0 ≤ n ∧ n ≤ 1000000000000) ∧ s.size = 0 ∧ len = 0) ∨ (k = 2 ∧ (AtomP s ∧ ¬ Wrd s) ∧ n = 0 ∧ len = 0) ∨ (k = 3 ∧ s.size = 0 ∧ len = 0 ∧ (-1 ≤ n ∧ n ≤ sl - 1)) ∨ ((k = 4 ∨ k = 5) ∧ s.size = 0 ∧ n = 0 ∧ len ≤ 20) ∨ (k = 6 ∧ s.size = 0 ∧ n = 0 ∧ (2 ≤ (len : Int) ∧ (len : Int) ≤ 6))

theorem shapeQ1 (sl n : Int) (s : ByteArray) (len : Nat) : ShapeQ sl 1 n s len ↔ (0 ≤ n ∧ n ≤ 1000000000000) ∧ s.size = 0 ∧ len = 0 := by simp [ShapeQ]
theorem shapeQ2 (sl n : Int) (s : ByteArray) (len : Nat) : ShapeQ sl 2 n s len ↔ (AtomP s ∧ ¬ Wrd s) ∧ n = 0 ∧ len = 0 := by simp [ShapeQ]
theorem shapeQ3 (sl n : Int) (s : ByteArray) (len : Nat) : ShapeQ sl 3 n s len ↔ s.size = 0 ∧ len = 0 ∧ (-1 ≤ n ∧ n ≤ sl - 1) := by simp [ShapeQ]
theorem shapeQ4 (sl n : Int) (s : ByteArray) (len : Nat) : ShapeQ sl 4 n s len ↔ s.size = 0 ∧ n = 0 ∧ len ≤ 20 := by simp [ShapeQ]
theorem shapeQ5 (sl n : Int) (s : ByteArray) (len : Nat) : ShapeQ sl 5 n s len ↔ s.size = 0 ∧ n = 0 ∧ len ≤ 20 := by simp [ShapeQ]
theorem shapeQ6 (sl n : Int) (s : ByteArray) (len : Nat) : ShapeQ sl 6 n s len ↔ s.size = 0 ∧ n = 0 ∧ (2 ≤ (len : Int) ∧ (len : Int) ≤ 6) := by simp [ShapeQ]

theorem in_call (x lo hi : Int) (w : World) : Calls Try.prog 10 #[.int .i64 x, .int .i64 lo, .int .i64 hi] w fun e w' => ∃ b : Bool, e = .returned (.bool b) ∧ (b = true ↔ lo ≤ x ∧ x ≤ hi) ∧ w = w' :=
  (specIn_any x lo hi w).mono fun e w' ⟨h1, h2⟩ => ⟨_, h1, by simp, h2⟩

set_option maxRecDepth 100000 in
set_option maxHeartbeats 4000000 in
theorem l9Shape_any (sl k n : Int) (s : ByteArray) (a : Option Addr) (len c : Nat) (w : World) (hs : s.size ≤ 9223372036854775807) (hlen : len ≤ 9223372036854775807) (hsl : 0 ≤ sl) (hsl2 : sl ≤ 1000000) :
    Calls Try.prog 16 #[.agg #[.int .i64 k, .int .i64 n, .string s, .slice a len c], .int .i64 sl] w fun e w' => BRes (ShapeQ sl k n s len) w e w' := by
  have hA : Below w.heap.size w (w.alloc (.cells #[.int .i64 k, .int .i64 n, .string s, .slice a len c] 29)) := (Below.refl _ _).alloc (Nat.le_refl _) _
  by_cases h1 : k = 1
  · subst h1
    rw [shapeQ1]
    obtain ⟨PP, hPP⟩ : ∃ P : Prop, ((0 ≤ n ∧ n ≤ 1000000000000) ∧ s.size = 0 ∧ len = 0) = P := ⟨_, rfl⟩
    have HPP : Hid (((0 ≤ n ∧ n ≤ 1000000000000) ∧ s.size = 0 ∧ len = 0) = PP) := hPP
    rw [hPP]
    clear hPP
    go_enter Try.func16, Try.ntmps16
    go_wp2_with fail
    refine (in_call n 0 1000000000000 _).mono ?_
    rintro e V0 ⟨b0, rfl, hb0, hw0⟩
    subst hw0
    have HB0 : Hid (b0 = true ↔ 0 ≤ n ∧ n ≤ 1000000000000) := hb0
    clear hb0
    cases b0 with
    | false =>
      have HF : Hid (¬ PP) := by rw [← HPP.out]; exact fun h => by have := HB0.out.2 h.1; simp at this
      go_wp2_with fail
      go_ret
      exact bres_no HF.out hA
    | true =>
      have HP0 : Hid (0 ≤ n ∧ n ≤ 1000000000000) := HB0.out.1 (by simp)
      by_cases hc1 : s.size = 0
      · have HP1 : Hid (s.size = 0) := hc1
        have he : s.toList.isEmpty = true := (empty_iff s).2 hc1
        clear hc1
        by_cases hc2 : len = 0
        · have HP2 : Hid (len = 0) := hc2
          have hl0 : ((len : Int) == 0) = true := by simp [hc2]
          clear hc2
          have HF : Hid PP := by rw [← HPP.out]; exact ⟨(HP0.out), (HP1.out), (HP2.out)⟩
          go_wp2_with fail
          go_ret
          exact bres_yes HF.out hA
        · have HF : Hid (¬ PP) := by rw [← HPP.out]; exact fun h => hc2 h.2.2
          have hl0 : ((len : Int) == 0) = false := by simp [hc2]
          clear hc2
          go_wp2_with fail
          go_ret
          exact bres_no HF.out hA
      · have HF : Hid (¬ PP) := by rw [← HPP.out]; exact fun h => hc1 h.2.1
        have he : s.toList.isEmpty = false := empty_no hc1
        clear hc1
        go_wp2_with fail
        go_ret
        exact bres_no HF.out hA
  by_cases h2 : k = 2
  · subst h2
    rw [shapeQ2]
    go_enter Try.func16, Try.ntmps16
    go_wp2_with fail
    refine (l4Atom_any s _ hs).mono ?_
    rintro e V ⟨b, rfl, hb, hB⟩
    have HBE : Hid (Below w.heap.size w V) := hA.trans (hB.mono hA.size)
    have hbx : V.heap[w.heap.size]? = some (.cells #[.int .i64 2, .int .i64 n, .string s, .slice a len c] 29 (0, 0)) := (hB.block _ (by simp)).trans (heap_alloc_new w _)
    have d1 : V.cell? ⟨w.heap.size, 1, none⟩ = some (.int .i64 n) := by rw [cell_of_row V _ 1 _ _ _ hbx]; rfl
    have d3 : V.cell? ⟨w.heap.size, 3, none⟩ = some (.slice a len c) := by rw [cell_of_row V _ 3 _ _ _ hbx]; rfl
    clear hB hbx hA
    cases b with
    | false =>
      have HF : Hid (¬ ((AtomP s ∧ ¬ Wrd s) ∧ n = 0 ∧ len = 0)) := fun h => by have := hb.out.2 h.1; cases this
      go_wp2_with fail
      go_ret
      exact bres_no HF.out HBE.out
    | true =>
      by_cases hn : n = 0
      · have hn0 : (n == 0) = true := by simp [hn]
        by_cases hl : len = 0
        · have hl0 : ((len : Int) == 0) = true := by simp [hl]
          have HF : Hid ((AtomP s ∧ ¬ Wrd s) ∧ n = 0 ∧ len = 0) := ⟨hb.out.1 rfl, hn, hl⟩
          clear hn hl hb
          go_wp2_with fail
          go_ret
          exact bres_yes HF.out HBE.out
        · have hl0 : ((len : Int) == 0) = false := by simp [hl]
          have HF : Hid (¬ ((AtomP s ∧ ¬ Wrd s) ∧ n = 0 ∧ len = 0)) := fun h => hl h.2.2
          clear hn hl hb
          go_wp2_with fail
          go_ret
          exact bres_no HF.out HBE.out
      · have hn0 : (n == 0) = false := by simp [hn]
        have HF : Hid (¬ ((AtomP s ∧ ¬ Wrd s) ∧ n = 0 ∧ len = 0)) := fun h => hn h.2.1
        clear hn hb
        go_wp2_with fail
        go_ret
        exact bres_no HF.out HBE.out
  by_cases h3 : k = 3
  · subst h3
    rw [shapeQ3]
    obtain ⟨PP, hPP⟩ : ∃ P : Prop, (s.size = 0 ∧ len = 0 ∧ (-1 ≤ n ∧ n ≤ sl - 1)) = P := ⟨_, rfl⟩
    have HPP : Hid ((s.size = 0 ∧ len = 0 ∧ (-1 ≤ n ∧ n ≤ sl - 1)) = PP) := hPP
    rw [hPP]
    clear hPP
    by_cases hc0 : s.size = 0
    · have HP0 : Hid (s.size = 0) := hc0
      have he : s.toList.isEmpty = true := (empty_iff s).2 hc0
      clear hc0
      by_cases hc1 : len = 0
      · have HP1 : Hid (len = 0) := hc1
        have hl0 : ((len : Int) == 0) = true := by simp [hc1]
        clear hc1
        go_enter Try.func16, Try.ntmps16
        go_wp2_with fail
        refine (in_call n (-1) (sl - 1) _).mono ?_
        rintro e V2 ⟨b2, rfl, hb2, hw2⟩
        subst hw2
        have HB2 : Hid (b2 = true ↔ -1 ≤ n ∧ n ≤ sl - 1) := hb2
        clear hb2
        cases b2 with
        | false =>
          have HF : Hid (¬ PP) := by rw [← HPP.out]; exact fun h => by have := HB2.out.2 h.2.2; simp at this
          go_wp2_with fail
          go_ret
          exact bres_no HF.out hA
        | true =>
          have HP2 : Hid (-1 ≤ n ∧ n ≤ sl - 1) := HB2.out.1 (by simp)
          have HF : Hid PP := by rw [← HPP.out]; exact ⟨(HP0.out), (HP1.out), (HP2.out)⟩
          go_wp2_with fail
          go_ret
          exact bres_yes HF.out hA
      · have HF : Hid (¬ PP) := by rw [← HPP.out]; exact fun h => hc1 h.2.1
        have hl0 : ((len : Int) == 0) = false := by simp [hc1]
        clear hc1
        go_enter Try.func16, Try.ntmps16
        go_wp2_with fail
        go_ret
        exact bres_no HF.out hA
    · have HF : Hid (¬ PP) := by rw [← HPP.out]; exact fun h => hc0 h.1
      have he : s.toList.isEmpty = false := empty_no hc0
      clear hc0
      go_enter Try.func16, Try.ntmps16
      go_wp2_with fail
      go_ret
      exact bres_no HF.out hA
  by_cases h4 : k = 4
  · subst h4
    rw [shapeQ4]
    obtain ⟨PP, hPP⟩ : ∃ P : Prop, (s.size = 0 ∧ n = 0 ∧ len ≤ 20) = P := ⟨_, rfl⟩
    have HPP : Hid ((s.size = 0 ∧ n = 0 ∧ len ≤ 20) = PP) := hPP
    rw [hPP]
    clear hPP
    by_cases hc0 : s.size = 0
    · have HP0 : Hid (s.size = 0) := hc0
      have he : s.toList.isEmpty = true := (empty_iff s).2 hc0
      clear hc0
      by_cases hc1 : n = 0
      · have HP1 : Hid (n = 0) := hc1
        have hn0 : (n == 0) = true := by simp [hc1]
        clear hc1
        by_cases hc2 : len ≤ 20
        · have HP2 : Hid (len ≤ 20) := hc2
          have hl2 : (len : Int) ≤ 20 := by omega
          clear hc2
          have HF : Hid PP := by rw [← HPP.out]; exact ⟨(HP0.out), (HP1.out), (HP2.out)⟩
          go_enter Try.func16, Try.ntmps16
          go_wp2_with fail
          go_ret
          exact bres_yes HF.out hA
        · have HF : Hid (¬ PP) := by rw [← HPP.out]; exact fun h => hc2 h.2.2
          have hl2 : ¬ (len : Int) ≤ 20 := by omega
          clear hc2
          go_enter Try.func16, Try.ntmps16
          go_wp2_with fail
          go_ret
          exact bres_no HF.out hA
      · have HF : Hid (¬ PP) := by rw [← HPP.out]; exact fun h => hc1 h.2.1
        have hn0 : (n == 0) = false := by simp [hc1]
        clear hc1
        go_enter Try.func16, Try.ntmps16
        go_wp2_with fail
        go_ret
        exact bres_no HF.out hA
    · have HF : Hid (¬ PP) := by rw [← HPP.out]; exact fun h => hc0 h.1
      have he : s.toList.isEmpty = false := empty_no hc0
      clear hc0
      go_enter Try.func16, Try.ntmps16
      go_wp2_with fail
      go_ret
      exact bres_no HF.out hA
  by_cases h5 : k = 5
  · subst h5
    rw [shapeQ5]
    obtain ⟨PP, hPP⟩ : ∃ P : Prop, (s.size = 0 ∧ n = 0 ∧ len ≤ 20) = P := ⟨_, rfl⟩
    have HPP : Hid ((s.size = 0 ∧ n = 0 ∧ len ≤ 20) = PP) := hPP
    rw [hPP]
    clear hPP
    by_cases hc0 : s.size = 0
    · have HP0 : Hid (s.size = 0) := hc0
      have he : s.toList.isEmpty = true := (empty_iff s).2 hc0
      clear hc0
      by_cases hc1 : n = 0
      · have HP1 : Hid (n = 0) := hc1
        have hn0 : (n == 0) = true := by simp [hc1]
        clear hc1
        by_cases hc2 : len ≤ 20
        · have HP2 : Hid (len ≤ 20) := hc2
          have hl2 : (len : Int) ≤ 20 := by omega
          clear hc2
          have HF : Hid PP := by rw [← HPP.out]; exact ⟨(HP0.out), (HP1.out), (HP2.out)⟩
          go_enter Try.func16, Try.ntmps16
          go_wp2_with fail
          go_ret
          exact bres_yes HF.out hA
        · have HF : Hid (¬ PP) := by rw [← HPP.out]; exact fun h => hc2 h.2.2
          have hl2 : ¬ (len : Int) ≤ 20 := by omega
          clear hc2
          go_enter Try.func16, Try.ntmps16
          go_wp2_with fail
          go_ret
          exact bres_no HF.out hA
      · have HF : Hid (¬ PP) := by rw [← HPP.out]; exact fun h => hc1 h.2.1
        have hn0 : (n == 0) = false := by simp [hc1]
        clear hc1
        go_enter Try.func16, Try.ntmps16
        go_wp2_with fail
        go_ret
        exact bres_no HF.out hA
    · have HF : Hid (¬ PP) := by rw [← HPP.out]; exact fun h => hc0 h.1
      have he : s.toList.isEmpty = false := empty_no hc0
      clear hc0
      go_enter Try.func16, Try.ntmps16
      go_wp2_with fail
      go_ret
      exact bres_no HF.out hA
  by_cases h6 : k = 6
  · subst h6
    rw [shapeQ6]
    obtain ⟨PP, hPP⟩ : ∃ P : Prop, (s.size = 0 ∧ n = 0 ∧ (2 ≤ (len : Int) ∧ (len : Int) ≤ 6)) = P := ⟨_, rfl⟩
    have HPP : Hid ((s.size = 0 ∧ n = 0 ∧ (2 ≤ (len : Int) ∧ (len : Int) ≤ 6)) = PP) := hPP
    rw [hPP]
    clear hPP
    by_cases hc0 : s.size = 0
    · have HP0 : Hid (s.size = 0) := hc0
      have he : s.toList.isEmpty = true := (empty_iff s).2 hc0
      clear hc0
      by_cases hc1 : n = 0
      · have HP1 : Hid (n = 0) := hc1
        have hn0 : (n == 0) = true := by simp [hc1]
        clear hc1
        go_enter Try.func16, Try.ntmps16
        go_wp2_with fail
        refine (in_call (len : Int) 2 6 _).mono ?_
        rintro e V2 ⟨b2, rfl, hb2, hw2⟩
        subst hw2
        have HB2 : Hid (b2 = true ↔ 2 ≤ (len : Int) ∧ (len : Int) ≤ 6) := hb2
        clear hb2
        cases b2 with
        | false =>
          have HF : Hid (¬ PP) := by rw [← HPP.out]; exact fun h => by have := HB2.out.2 h.2.2; simp at this
          go_wp2_with fail
          go_ret
          exact bres_no HF.out hA
        | true =>
          have HP2 : Hid (2 ≤ (len : Int) ∧ (len : Int) ≤ 6) := HB2.out.1 (by simp)
          have HF : Hid PP := by rw [← HPP.out]; exact ⟨(HP0.out), (HP1.out), (HP2.out)⟩
          go_wp2_with fail
          go_ret
          exact bres_yes HF.out hA
      · have HF : Hid (¬ PP) := by rw [← HPP.out]; exact fun h => hc1 h.2.1
        have hn0 : (n == 0) = false := by simp [hc1]
        clear hc1
        go_enter Try.func16, Try.ntmps16
        go_wp2_with fail
        go_ret
        exact bres_no HF.out hA
    · have HF : Hid (¬ PP) := by rw [← HPP.out]; exact fun h => hc0 h.1
      have he : s.toList.isEmpty = false := empty_no hc0
      clear hc0
      go_enter Try.func16, Try.ntmps16
      go_wp2_with fail
      go_ret
      exact bres_no HF.out hA
  · have HF : Hid (¬ ShapeQ sl k n s len) := fun h => by rcases h with h | h | h | ⟨h | h, _⟩ | h <;> first | exact h1 h.1 | exact h2 h.1 | exact h3 h.1 | exact h4 h | exact h5 h | exact h6 h.1
    have q1 : (k == 1) = false := by simp [h1]
    have q2 : (k == 2) = false := by simp [h2]
    have q3 : (k == 3) = false := by simp [h3]
    have q4 : (k == 4) = false := by simp [h4]
    have q5 : (k == 5) = false := by simp [h5]
    have q6 : (k == 6) = false := by simp [h6]
    go_enter Try.func16, Try.ntmps16
    go_wp2_with fail
    go_ret
    exact bres_no HF.out hA

end Go.Proofs.Ytfcdmmmihiojoaa
