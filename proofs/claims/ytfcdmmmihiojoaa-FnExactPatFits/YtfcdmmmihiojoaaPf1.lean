/- The fields of a pattern by slots: the program's. -/
import Derived.Test.YtfcdmmmihiojoaaSp9d
import Derived.Test.YtfcdmmmihiojoaaExAt
namespace Go.Proofs.Ytfcdmmmihiojoaa
open Go.RowKit
set_option linter.unusedVariables false

/-- The shape of a pattern by slots, whatever the slot. -/
def ShapeF (k n : Int) (s : ByteArray) (len : Nat) : Prop :=
  (k = 1 ∧ s.size = 0 ∧ 0 ≤ n ∧ n ≤ 1000000000000 ∧ len = 0) ∨ (k = 2 ∧ n = 0 ∧ (AtomP s ∧ ¬ Wrd s) ∧ len = 0) ∨ (k = 3 ∧ s.size = 0 ∧ len = 0) ∨ ((k = 4 ∨ k = 5) ∧ n = 0 ∧ s.size = 0 ∧ len ≤ 20) ∨ (k = 6 ∧ n = 0 ∧ s.size = 0 ∧ 2 ≤ (len : Int) ∧ (len : Int) ≤ 6)

theorem shapeF1 (n : Int) (s : ByteArray) (len : Nat) : ShapeF 1 n s len ↔ s.size = 0 ∧ 0 ≤ n ∧ n ≤ 1000000000000 ∧ len = 0 := by simp [ShapeF]
theorem shapeF2 (n : Int) (s : ByteArray) (len : Nat) : ShapeF 2 n s len ↔ n = 0 ∧ (AtomP s ∧ ¬ Wrd s) ∧ len = 0 := by simp [ShapeF]
theorem shapeF3 (n : Int) (s : ByteArray) (len : Nat) : ShapeF 3 n s len ↔ s.size = 0 ∧ len = 0 := by simp [ShapeF]
theorem shapeF4 (n : Int) (s : ByteArray) (len : Nat) : ShapeF 4 n s len ↔ n = 0 ∧ s.size = 0 ∧ len ≤ 20 := by simp [ShapeF]
theorem shapeF5 (n : Int) (s : ByteArray) (len : Nat) : ShapeF 5 n s len ↔ n = 0 ∧ s.size = 0 ∧ len ≤ 20 := by simp [ShapeF]
theorem shapeF6 (n : Int) (s : ByteArray) (len : Nat) : ShapeF 6 n s len ↔ n = 0 ∧ s.size = 0 ∧ 2 ≤ (len : Int) ∧ (len : Int) ≤ 6 := by simp [ShapeF]

/-- The shape, and the slot. -/
theorem shapeQ_iff (sl k n : Int) (s : ByteArray) (len : Nat) : ShapeQ sl k n s len ↔ ShapeF k n s len ∧ (k = 3 → -1 ≤ n ∧ n ≤ sl - 1) := by
  unfold ShapeQ ShapeF
  constructor
  · rintro (⟨rfl, h⟩ | ⟨rfl, h⟩ | ⟨rfl, h⟩ | ⟨h0, h⟩ | ⟨rfl, h⟩)
    · exact ⟨.inl ⟨rfl, h.2.1, h.1.1, h.1.2, h.2.2⟩, fun e => by omega⟩
    · exact ⟨.inr (.inl ⟨rfl, h.2.1, h.1, h.2.2⟩), fun e => by omega⟩
    · exact ⟨.inr (.inr (.inl ⟨rfl, h.1, h.2.1⟩)), fun _ => h.2.2⟩
    · exact ⟨.inr (.inr (.inr (.inl ⟨h0, h.2.1, h.1, h.2.2⟩))), fun e => by omega⟩
    · exact ⟨.inr (.inr (.inr (.inr ⟨rfl, h.2.1, h.1, h.2.2.1, h.2.2.2⟩))), fun e => by omega⟩
  · rintro ⟨⟨rfl, h⟩ | ⟨rfl, h⟩ | ⟨rfl, h⟩ | ⟨h0, h⟩ | ⟨rfl, h⟩, g⟩
    · exact .inl ⟨rfl, ⟨h.2.1, h.2.2.1⟩, h.1, h.2.2.2⟩
    · exact .inr (.inl ⟨rfl, h.2.1, h.1, h.2.2⟩)
    · exact .inr (.inr (.inl ⟨rfl, h.1, h.2, g rfl⟩))
    · exact .inr (.inr (.inr (.inl ⟨h0, h.2.1, h.1, h.2.2⟩)))
    · exact .inr (.inr (.inr (.inr ⟨rfl, h.2.1, h.1, h.2.2.1, h.2.2.2⟩)))

set_option maxRecDepth 100000 in
set_option maxHeartbeats 4000000 in
theorem patFieldsFit_any (k n : Int) (s : ByteArray) (a : Option Addr) (len c : Nat) (w : World) (hs : s.size ≤ 9223372036854775807) (hlen : len ≤ 9223372036854775807) :
    Calls Try.prog 17 #[.agg #[.int .i64 k, .int .i64 n, .string s, .slice a len c]] w fun e w' => BRes (ShapeF k n s len) w e w' := by
  have hA : Below w.heap.size w (w.alloc (.cells #[.int .i64 k, .int .i64 n, .string s, .slice a len c] 29)) := (Below.refl _ _).alloc (Nat.le_refl _) _
  by_cases h1 : k = 1
  · subst h1
    rw [shapeF1]
    obtain ⟨PP, hPP⟩ : ∃ P : Prop, (s.size = 0 ∧ 0 ≤ n ∧ n ≤ 1000000000000 ∧ len = 0) = P := ⟨_, rfl⟩
    have HPP : Hid ((s.size = 0 ∧ 0 ≤ n ∧ n ≤ 1000000000000 ∧ len = 0) = PP) := hPP
    rw [hPP]
    clear hPP
    by_cases hc0 : s.size = 0
    · have HP0 : Hid (s.size = 0) := hc0
      have he : s.toList.isEmpty = true := (empty_iff s).2 hc0
      clear hc0
      by_cases hc1 : 0 ≤ n
      · have HP1 : Hid (0 ≤ n) := hc1
        have hd68 : 0 ≤ n := hc1
        clear hc1
        by_cases hc2 : n ≤ 1000000000000
        · have HP2 : Hid (n ≤ 1000000000000) := hc2
          have hd24 : n ≤ 1000000000000 := hc2
          clear hc2
          by_cases hc3 : len = 0
          · have HP3 : Hid (len = 0) := hc3
            have hl0 : ((len : Int) == 0) = true := by simp [hc3]
            clear hc3
            have HF : Hid PP := by rw [← HPP.out]; exact ⟨(HP0.out), (HP1.out), (HP2.out), (HP3.out)⟩
            go_enter Try.func17, Try.ntmps17
            go_wp2_with fail
            go_ret
            exact bres_yes HF.out hA
          · have HF : Hid (¬ PP) := by rw [← HPP.out]; exact fun h => hc3 h.2.2.2
            have hl0 : ((len : Int) == 0) = false := by simp [hc3]
            clear hc3
            go_enter Try.func17, Try.ntmps17
            go_wp2_with fail
            go_ret
            exact bres_no HF.out hA
        · have HF : Hid (¬ PP) := by rw [← HPP.out]; exact fun h => hc2 h.2.2.1
          have hd24 : ¬ n ≤ 1000000000000 := hc2
          clear hc2
          go_enter Try.func17, Try.ntmps17
          go_wp2_with fail
          go_ret
          exact bres_no HF.out hA
      · have HF : Hid (¬ PP) := by rw [← HPP.out]; exact fun h => hc1 h.2.1
        have hd68 : ¬ 0 ≤ n := hc1
        clear hc1
        go_enter Try.func17, Try.ntmps17
        go_wp2_with fail
        go_ret
        exact bres_no HF.out hA
    · have HF : Hid (¬ PP) := by rw [← HPP.out]; exact fun h => hc0 h.1
      have he : s.toList.isEmpty = false := empty_no hc0
      clear hc0
      go_enter Try.func17, Try.ntmps17
      go_wp2_with fail
      go_ret
      exact bres_no HF.out hA
  by_cases h2 : k = 2
  · subst h2
    rw [shapeF2]
    obtain ⟨PP, hPP⟩ : ∃ P : Prop, (n = 0 ∧ (AtomP s ∧ ¬ Wrd s) ∧ len = 0) = P := ⟨_, rfl⟩
    have HPP : Hid ((n = 0 ∧ (AtomP s ∧ ¬ Wrd s) ∧ len = 0) = PP) := hPP
    rw [hPP]
    clear hPP
    by_cases hc0 : n = 0
    · have HP0 : Hid (n = 0) := hc0
      have hn0 : (n != 0) = false := by simp [hc0]
      clear hc0
      go_enter Try.func17, Try.ntmps17
      go_wp2_with fail
      refine (exprAtomOk_any s _ hs).mono ?_
      rintro e V1 ⟨b1, rfl, hb1, hw1⟩
      subst hw1
      have HB1 : Hid (b1 = true ↔ AtomP s ∧ ¬ Wrd s) := hb1
      clear hb1
      cases b1 with
      | false =>
        have HF : Hid (¬ PP) := by rw [← HPP.out]; exact fun h => by have := HB1.out.2 h.2.1; simp at this
        go_wp2_with fail
        go_ret
        exact bres_no HF.out hA
      | true =>
        have HP1 : Hid (AtomP s ∧ ¬ Wrd s) := HB1.out.1 (by simp)
        by_cases hc2 : len = 0
        · have HP2 : Hid (len = 0) := hc2
          have hl0 : ((len : Int) == 0) = true := by simp [hc2]
          clear hc2
          have HF : Hid PP := by rw [← HPP.out]; exact ⟨(HP0.out), (HP1.out), (HP2.out)⟩
          go_wp2_with fail
          go_ret
          exact bres_yes HF.out hA
        · have HF : Hid (¬ PP) := by rw [← HPP.out]; exact fun h => hc2 h.2.2
          have hl0 : ((len : Int) == 0) = false := by simp [hc2]
          clear hc2
          go_wp2_with fail
          go_ret
          exact bres_no HF.out hA
    · have HF : Hid (¬ PP) := by rw [← HPP.out]; exact fun h => hc0 h.1
      have hn0 : (n != 0) = true := by simp [hc0]
      clear hc0
      go_enter Try.func17, Try.ntmps17
      go_wp2_with fail
      go_ret
      exact bres_no HF.out hA
  by_cases h3 : k = 3
  · subst h3
    rw [shapeF3]
    obtain ⟨PP, hPP⟩ : ∃ P : Prop, (s.size = 0 ∧ len = 0) = P := ⟨_, rfl⟩
    have HPP : Hid ((s.size = 0 ∧ len = 0) = PP) := hPP
    rw [hPP]
    clear hPP
    by_cases hc0 : s.size = 0
    · have HP0 : Hid (s.size = 0) := hc0
      have he : s.toList.isEmpty = true := (empty_iff s).2 hc0
      clear hc0
      by_cases hc1 : len = 0
      · have HP1 : Hid (len = 0) := hc1
        have hl0 : ((len : Int) == 0) = true := by simp [hc1]
        clear hc1
        have HF : Hid PP := by rw [← HPP.out]; exact ⟨(HP0.out), (HP1.out)⟩
        go_enter Try.func17, Try.ntmps17
        go_wp2_with fail
        go_ret
        exact bres_yes HF.out hA
      · have HF : Hid (¬ PP) := by rw [← HPP.out]; exact fun h => hc1 h.2
        have hl0 : ((len : Int) == 0) = false := by simp [hc1]
        clear hc1
        go_enter Try.func17, Try.ntmps17
        go_wp2_with fail
        go_ret
        exact bres_no HF.out hA
    · have HF : Hid (¬ PP) := by rw [← HPP.out]; exact fun h => hc0 h.1
      have he : s.toList.isEmpty = false := empty_no hc0
      clear hc0
      go_enter Try.func17, Try.ntmps17
      go_wp2_with fail
      go_ret
      exact bres_no HF.out hA
  by_cases h4 : k = 4
  · subst h4
    rw [shapeF4]
    obtain ⟨PP, hPP⟩ : ∃ P : Prop, (n = 0 ∧ s.size = 0 ∧ len ≤ 20) = P := ⟨_, rfl⟩
    have HPP : Hid ((n = 0 ∧ s.size = 0 ∧ len ≤ 20) = PP) := hPP
    rw [hPP]
    clear hPP
    by_cases hc0 : n = 0
    · have HP0 : Hid (n = 0) := hc0
      have hn0 : (n != 0) = false := by simp [hc0]
      clear hc0
      by_cases hc1 : s.size = 0
      · have HP1 : Hid (s.size = 0) := hc1
        have he : s.toList.isEmpty = true := (empty_iff s).2 hc1
        clear hc1
        by_cases hc2 : len ≤ 20
        · have HP2 : Hid (len ≤ 20) := hc2
          have hl2 : (len : Int) ≤ 20 := by omega
          clear hc2
          have HF : Hid PP := by rw [← HPP.out]; exact ⟨(HP0.out), (HP1.out), (HP2.out)⟩
          go_enter Try.func17, Try.ntmps17
          go_wp2_with fail
          go_ret
          exact bres_yes HF.out hA
        · have HF : Hid (¬ PP) := by rw [← HPP.out]; exact fun h => hc2 h.2.2
          have hl2 : ¬ (len : Int) ≤ 20 := by omega
          clear hc2
          go_enter Try.func17, Try.ntmps17
          go_wp2_with fail
          go_ret
          exact bres_no HF.out hA
      · have HF : Hid (¬ PP) := by rw [← HPP.out]; exact fun h => hc1 h.2.1
        have he : s.toList.isEmpty = false := empty_no hc1
        clear hc1
        go_enter Try.func17, Try.ntmps17
        go_wp2_with fail
        go_ret
        exact bres_no HF.out hA
    · have HF : Hid (¬ PP) := by rw [← HPP.out]; exact fun h => hc0 h.1
      have hn0 : (n != 0) = true := by simp [hc0]
      clear hc0
      go_enter Try.func17, Try.ntmps17
      go_wp2_with fail
      go_ret
      exact bres_no HF.out hA
  by_cases h5 : k = 5
  · subst h5
    rw [shapeF5]
    obtain ⟨PP, hPP⟩ : ∃ P : Prop, (n = 0 ∧ s.size = 0 ∧ len ≤ 20) = P := ⟨_, rfl⟩
    have HPP : Hid ((n = 0 ∧ s.size = 0 ∧ len ≤ 20) = PP) := hPP
    rw [hPP]
    clear hPP
    by_cases hc0 : n = 0
    · have HP0 : Hid (n = 0) := hc0
      have hn0 : (n != 0) = false := by simp [hc0]
      clear hc0
      by_cases hc1 : s.size = 0
      · have HP1 : Hid (s.size = 0) := hc1
        have he : s.toList.isEmpty = true := (empty_iff s).2 hc1
        clear hc1
        by_cases hc2 : len ≤ 20
        · have HP2 : Hid (len ≤ 20) := hc2
          have hl2 : (len : Int) ≤ 20 := by omega
          clear hc2
          have HF : Hid PP := by rw [← HPP.out]; exact ⟨(HP0.out), (HP1.out), (HP2.out)⟩
          go_enter Try.func17, Try.ntmps17
          go_wp2_with fail
          go_ret
          exact bres_yes HF.out hA
        · have HF : Hid (¬ PP) := by rw [← HPP.out]; exact fun h => hc2 h.2.2
          have hl2 : ¬ (len : Int) ≤ 20 := by omega
          clear hc2
          go_enter Try.func17, Try.ntmps17
          go_wp2_with fail
          go_ret
          exact bres_no HF.out hA
      · have HF : Hid (¬ PP) := by rw [← HPP.out]; exact fun h => hc1 h.2.1
        have he : s.toList.isEmpty = false := empty_no hc1
        clear hc1
        go_enter Try.func17, Try.ntmps17
        go_wp2_with fail
        go_ret
        exact bres_no HF.out hA
    · have HF : Hid (¬ PP) := by rw [← HPP.out]; exact fun h => hc0 h.1
      have hn0 : (n != 0) = true := by simp [hc0]
      clear hc0
      go_enter Try.func17, Try.ntmps17
      go_wp2_with fail
      go_ret
      exact bres_no HF.out hA
  by_cases h6 : k = 6
  · subst h6
    rw [shapeF6]
    obtain ⟨PP, hPP⟩ : ∃ P : Prop, (n = 0 ∧ s.size = 0 ∧ 2 ≤ (len : Int) ∧ (len : Int) ≤ 6) = P := ⟨_, rfl⟩
    have HPP : Hid ((n = 0 ∧ s.size = 0 ∧ 2 ≤ (len : Int) ∧ (len : Int) ≤ 6) = PP) := hPP
    rw [hPP]
    clear hPP
    by_cases hc0 : n = 0
    · have HP0 : Hid (n = 0) := hc0
      have hn0 : (n != 0) = false := by simp [hc0]
      clear hc0
      by_cases hc1 : s.size = 0
      · have HP1 : Hid (s.size = 0) := hc1
        have he : s.toList.isEmpty = true := (empty_iff s).2 hc1
        clear hc1
        by_cases hc2 : 2 ≤ (len : Int)
        · have HP2 : Hid (2 ≤ (len : Int)) := hc2
          have hd91 : 2 ≤ (len : Int) := hc2
          clear hc2
          by_cases hc3 : (len : Int) ≤ 6
          · have HP3 : Hid ((len : Int) ≤ 6) := hc3
            have hd41 : (len : Int) ≤ 6 := hc3
            clear hc3
            have HF : Hid PP := by rw [← HPP.out]; exact ⟨(HP0.out), (HP1.out), (HP2.out), (HP3.out)⟩
            go_enter Try.func17, Try.ntmps17
            go_wp2_with fail
            go_ret
            exact bres_yes HF.out hA
          · have HF : Hid (¬ PP) := by rw [← HPP.out]; exact fun h => hc3 h.2.2.2
            have hd41 : ¬ (len : Int) ≤ 6 := hc3
            clear hc3
            go_enter Try.func17, Try.ntmps17
            go_wp2_with fail
            go_ret
            exact bres_no HF.out hA
        · have HF : Hid (¬ PP) := by rw [← HPP.out]; exact fun h => hc2 h.2.2.1
          have hd91 : ¬ 2 ≤ (len : Int) := hc2
          clear hc2
          go_enter Try.func17, Try.ntmps17
          go_wp2_with fail
          go_ret
          exact bres_no HF.out hA
      · have HF : Hid (¬ PP) := by rw [← HPP.out]; exact fun h => hc1 h.2.1
        have he : s.toList.isEmpty = false := empty_no hc1
        clear hc1
        go_enter Try.func17, Try.ntmps17
        go_wp2_with fail
        go_ret
        exact bres_no HF.out hA
    · have HF : Hid (¬ PP) := by rw [← HPP.out]; exact fun h => hc0 h.1
      have hn0 : (n != 0) = true := by simp [hc0]
      clear hc0
      go_enter Try.func17, Try.ntmps17
      go_wp2_with fail
      go_ret
      exact bres_no HF.out hA
  · have HF : Hid (¬ ShapeF k n s len) := fun h => by rcases h with h | h | h | ⟨h | h, _⟩ | h <;> first | exact h1 h.1 | exact h2 h.1 | exact h3 h.1 | exact h4 h | exact h5 h | exact h6 h.1
    have q1 : (k == 1) = false := by simp [h1]
    have p1 : (k != 1) = true := by simp [h1]
    have q2 : (k == 2) = false := by simp [h2]
    have p2 : (k != 2) = true := by simp [h2]
    have q3 : (k == 3) = false := by simp [h3]
    have p3 : (k != 3) = true := by simp [h3]
    have q4 : (k == 4) = false := by simp [h4]
    have p4 : (k != 4) = true := by simp [h4]
    have q5 : (k == 5) = false := by simp [h5]
    have p5 : (k != 5) = true := by simp [h5]
    have q6 : (k == 6) = false := by simp [h6]
    have p6 : (k != 6) = true := by simp [h6]
    clear h1 h2 h3 h4 h5 h6
    by_cases hn : n = 0
    · have hn0 : (n != 0) = false := by simp [hn]
      clear hn
      by_cases hq : s.size = 0
      · have he : s.toList.isEmpty = true := (empty_iff s).2 hq
        clear hq
        go_enter Try.func17, Try.ntmps17
        go_wp2_with fail
        go_ret
        exact bres_no HF.out hA
      · have he : s.toList.isEmpty = false := empty_no hq
        clear hq
        go_enter Try.func17, Try.ntmps17
        go_wp2_with fail
        go_ret
        exact bres_no HF.out hA
    · have hn0 : (n != 0) = true := by simp [hn]
      clear hn
      go_enter Try.func17, Try.ntmps17
      go_wp2_with fail
      go_ret
      exact bres_no HF.out hA

end Go.Proofs.Ytfcdmmmihiojoaa
