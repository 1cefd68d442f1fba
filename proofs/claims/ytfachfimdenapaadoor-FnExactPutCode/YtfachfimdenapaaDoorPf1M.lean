/- The fields of a pattern by slots: the program's. -/
import Derived.Test.YtfachfimdenapaaDoorSp9aM
import Derived.Test.YtfachfimdenapaaDoorIOkM
import Derived.Laws.Tables
import Derived.Deep.WholeRow
namespace Go.Proofs.YtfachfimdenapaaDoor
open Go.RowKit
set_option linter.unusedVariables false

/-- The shape of a pattern by slots, whatever the slot. -/
def ShapeF (k n : Int) (s : ByteArray) (len : Nat) : Prop :=
  (k = 1 ∧ s.size = 0 ∧ 0 ≤ n ∧ n ≤ 1000000000000 ∧ len = 0) ∨ (k = 2 ∧ n = 0 ∧ (AtomP s ∧ ¬ Wrd s) ∧ len = 0) ∨ (k = 3 ∧ s.size = 0 ∧ len = 0) ∨ ((k = 4 ∨ k = 5) ∧ n = 0 ∧ s.size = 0 ∧ len ≤ 20) ∨ (k = 6 ∧ n = 0 ∧ s.size = 0 ∧ 2 ≤ (len : Int) ∧ (len : Int) ≤ 6)

theorem shapeF1 (n : Int) (s : ByteArray) (len : Nat) : ShapeF 1 n s len ↔ s.size = 0 ∧ 0 ≤ n ∧ n ≤ 1000000000000 ∧ len = 0 := by simp [ShapeF]
theorem shapeF2 (n : Int) (s : ByteArray) (len : Nat) : ShapeF 2 n s len ↔ n = 0 ∧ (AtomP s ∧ ¬ Wrd s) ∧ len = 0 := by simp [ShapeF]
theorem shapeF3 (n : Int) (s : ByteArray) (len : Nat) : ShapeF 3 n s len ↔ s.size = 0 ∧ len = 0 := by simp [ShapeF]
theorem shapeF4 (n : Int) (s : ByteArray) (len : Nat) : ShapeF 4 n s len ↔ n = 0 ∧ s.size = 0 ∧ len ≤ 20 := by simp [ShapeF]
theorem shapeF5 (n : Int) (s : ByteArray) (len : Nat) : ShapeF 5 n s len ↔ n = 0 ∧ s.size = 0 ∧ len ≤ 20 := by simp [ShapeF]
theorem shapeF6 (n : Int) (s : ByteArray) (len : Nat) : ShapeF 6 n s len ↔ n = 0 ∧ s.size = 0 ∧ 2 ≤ (len : Int) ∧ (len : Int) ≤ 6 := by simp [ShapeF]

/-- The shape, and the slot. -/
theorem shapeQ_iff (sl k n : Int) (s : ByteArray) (len : Nat) : ShapeQ sl k n s len ↔ ShapeF k n s len ∧ (k = 3 → -1 ≤ n ∧ n ≤ sl - 1) := by
  unfold ShapeQ ShapeF
  constructor
  · rintro (⟨rfl, h⟩ | ⟨rfl, h⟩ | ⟨rfl, h⟩ | ⟨h0, h⟩ | ⟨rfl, h⟩)
    · exact ⟨.inl ⟨rfl, h.2.1, h.1.1, h.1.2, h.2.2⟩, fun e => by omega⟩
    · exact ⟨.inr (.inl ⟨rfl, h.2.1, h.1, h.2.2⟩), fun e => by omega⟩
    · exact ⟨.inr (.inr (.inl ⟨rfl, h.1, h.2.1⟩)), fun _ => h.2.2⟩
    · exact ⟨.inr (.inr (.inr (.inl ⟨h0, h.2.1, h.1, h.2.2⟩))), fun e => by omega⟩
    · exact ⟨.inr (.inr (.inr (.inr ⟨rfl, h.2.1, h.1, h.2.2.1, h.2.2.2⟩))), fun e => by omega⟩
  · rintro ⟨⟨rfl, h⟩ | ⟨rfl, h⟩ | ⟨rfl, h⟩ | ⟨h0, h⟩ | ⟨rfl, h⟩, g⟩
    · exact .inl ⟨rfl, ⟨h.2.1, h.2.2.1⟩, h.1, h.2.2.2⟩
    · exact .inr (.inl ⟨rfl, h.2.1, h.1, h.2.2⟩)
    · exact .inr (.inr (.inl ⟨rfl, h.1, h.2, g rfl⟩))
    · exact .inr (.inr (.inr (.inl ⟨h0, h.2.1, h.1, h.2.2⟩)))
    · exact .inr (.inr (.inr (.inr ⟨rfl, h.2.1, h.1, h.2.2.1, h.2.2.2⟩)))

set_option maxRecDepth 100000 in
set_option maxHeartbeats 4000000 in
theorem patFieldsFit_any (k n : Int) (s : ByteArray) (a : Option Addr) (len c : Nat) (w : World) (hs : s.size ≤ 9223372036854775807) (hlen : len ≤ 9223372036854775807) :
    Calls Tryd.prog 80 #[.agg #[.int .i64 k, .int .i64 n, .string s, .slice a len c]] w fun e w' => BRes (ShapeF k n s len) w e w' := by
  have hA : Below w.heap.size w (w.alloc (.cells #[.int .i64 k, .int .i64 n, .string s, .slice a len c] 51)) := (Below.refl _ _).alloc (Nat.le_refl _) _
  by_cases h1 : k = 1
  · subst h1
    rw [shapeF1]
    obtain ⟨PP, hPP⟩ : ∃ P : Prop, (s.size = 0 ∧ 0 ≤ n ∧ n ≤ 1000000000000 ∧ len = 0) = P := ⟨_, rfl⟩
    have HPP : Hid ((s.size = 0 ∧ 0 ≤ n ∧ n ≤ 1000000000000 ∧ len = 0) = PP) := hPP
    rw [hPP]
    clear hPP
    by_cases hc0 : s.size = 0
    · have HP0 : Hid (s.size = 0) := hc0
      have he : s.toList.isEmpty = true := (empty_iff s).2 hc0
      clear hc0
      by_cases hc1 : 0 ≤ n
      · have HP1 : Hid (0 ≤ n) := hc1
        have hd68 : 0 ≤ n := hc1
        clear hc1
        by_cases hc2 : n ≤ 1000000000000
        · have HP2 : Hid (n ≤ 1000000000000) := hc2
          have hd24 : n ≤ 1000000000000 := hc2
          clear hc2
          by_cases hc3 : len = 0
          · have HP3 : Hid (len = 0) := hc3
            have hl0 : ((len : Int) == 0) = true := by simp [hc3]
            clear hc3
            have HF : Hid PP := by rw [← HPP.out]; exact ⟨(HP0.out), (HP1.out), (HP2.out), (HP3.out)⟩
            go_enter Tryd.func80, Tryd.ntmps80
            go_wp2_with fail
            go_ret
            exact bres_yes HF.out hA
          · have HF : Hid (¬ PP) := by rw [← HPP.out]; exact fun h => hc3 h.2.2.2
            have hl0 : ((len : Int) == 0) = false := by simp [hc3]
            clear hc3
            go_enter Tryd.func80, Tryd.ntmps80
            go_wp2_with fail
            go_ret
            exact bres_no HF.out hA
        · have HF : Hid (¬ PP) := by rw [← HPP.out]; exact fun h => hc2 h.2.2.1
          have hd24 : ¬ n ≤ 1000000000000 := hc2
          clear hc2
          go_enter Tryd.func80, Tryd.ntmps80
          go_wp2_with fail
          go_ret
          exact bres_no HF.out hA
      · have HF : Hid (¬ PP) := by rw [← HPP.out]; exact fun h => hc1 h.2.1
        have hd68 : ¬ 0 ≤ n := hc1
        clear hc1
        go_enter Tryd.func80, Tryd.ntmps80
        go_wp2_with fail
        go_ret
        exact bres_no HF.out hA
    · have HF : Hid (¬ PP) := by rw [← HPP.out]; exact fun h => hc0 h.1
      have he : s.toList.isEmpty = false := empty_no hc0
      clear hc0
      go_enter Tryd.func80, Tryd.ntmps80
      go_wp2_with fail
      go_ret
      exact bres_no HF.out hA
  by_cases h2 : k = 2
  · subst h2
    rw [shapeF2]
    obtain ⟨PP, hPP⟩ : ∃ P : Prop, (n = 0 ∧ (AtomP s ∧ ¬ Wrd s) ∧ len = 0) = P := ⟨_, rfl⟩
    have HPP : Hid ((n = 0 ∧ (AtomP s ∧ ¬ Wrd s) ∧ len = 0) = PP) := hPP
    rw [hPP]
    clear hPP
    by_cases hc0 : n = 0
    · have HP0 : Hid (n = 0) := hc0
      have hn0 : (n != 0) = false := by simp [hc0]
      clear hc0
      go_enter Tryd.func80, Tryd.ntmps80
      go_wp2_with fail
      refine (exprAtomOk_any s _ hs).mono ?_
      rintro e V1 ⟨b1, rfl, hb1, hw1⟩
      subst hw1
      have HB1 : Hid (b1 = true ↔ AtomP s ∧ ¬ Wrd s) := hb1
      clear hb1
      cases b1 with
      | false =>
        have HF : Hid (¬ PP) := by rw [← HPP.out]; exact fun h => by have := HB1.out.2 h.2.1; simp at this
        go_wp2_with fail
        go_ret
        exact bres_no HF.out hA
      | true =>
        have HP1 : Hid (AtomP s ∧ ¬ Wrd s) := HB1.out.1 (by simp)
        by_cases hc2 : len = 0
        · have HP2 : Hid (len = 0) := hc2
          have hl0 : ((len : Int) == 0) = true := by simp [hc2]
          clear hc2
          have HF : Hid PP := by rw [← HPP.out]; exact ⟨(HP0.out), (HP1.out), (HP2.out)⟩
          go_wp2_with fail
          go_ret
          exact bres_yes HF.out hA
        · have HF : Hid (¬ PP) := by rw [← HPP.out]; exact fun h => hc2 h.2.2
          have hl0 : ((len : Int) == 0) = false := by simp [hc2]
          clear hc2
          go_wp2_with fail
          go_ret
          exact bres_no HF.out hA
    · have HF : Hid (¬ PP) := by rw [← HPP.out]; exact fun h => hc0 h.1
      have hn0 : (n != 0) = true := by simp [hc0]
      clear hc0
      go_enter Tryd.func80, Tryd.ntmps80
      go_wp2_with fail
      go_ret
      exact bres_no HF.out hA
  by_cases h3 : k = 3
  · subst h3
    rw [shapeF3]
    obtain ⟨PP, hPP⟩ : ∃ P : Prop, (s.size = 0 ∧ len = 0) = P := ⟨_, rfl⟩
    have HPP : Hid ((s.size = 0 ∧ len = 0) = PP) := hPP
    rw [hPP]
    clear hPP
    by_cases hc0 : s.size = 0
    · have HP0 : Hid (s.size = 0) := hc0
      have he : s.toList.isEmpty = true := (empty_iff s).2 hc0
      clear hc0
      by_cases hc1 : len = 0
      · have HP1 : Hid (len = 0) := hc1
        have hl0 : ((len : Int) == 0) = true := by simp [hc1]
        clear hc1
        have HF : Hid PP := by rw [← HPP.out]; exact ⟨(HP0.out), (HP1.out)⟩
        go_enter Tryd.func80, Tryd.ntmps80
        go_wp2_with fail
        go_ret
        exact bres_yes HF.out hA
      · have HF : Hid (¬ PP) := by rw [← HPP.out]; exact fun h => hc1 h.2
        have hl0 : ((len : Int) == 0) = false := by simp [hc1]
        clear hc1
        go_enter Tryd.func80, Tryd.ntmps80
        go_wp2_with fail
        go_ret
        exact bres_no HF.out hA
    · have HF : Hid (¬ PP) := by rw [← HPP.out]; exact fun h => hc0 h.1
      have he : s.toList.isEmpty = false := empty_no hc0
      clear hc0
      go_enter Tryd.func80, Tryd.ntmps80
      go_wp2_with fail
      go_ret
      exact bres_no HF.out hA
  by_cases h4 : k = 4
  · subst h4
    rw [shapeF4]
    obtain ⟨PP, hPP⟩ : ∃ P : Prop, (n = 0 ∧ s.size = 0 ∧ len ≤ 20) = P := ⟨_, rfl⟩
    have HPP : Hid ((n = 0 ∧ s.size = 0 ∧ len ≤ 20) = PP) := hPP
    rw [hPP]
    clear hPP
    by_cases hc0 : n = 0
    · have HP0 : Hid (n = 0) := hc0
      have hn0 : (n != 0) = false := by simp [hc0]
      clear hc0
      by_cases hc1 : s.size = 0
      · have HP1 : Hid (s.size = 0) := hc1
        have he : s.toList.isEmpty = true := (empty_iff s).2 hc1
        clear hc1
        by_cases hc2 : len ≤ 20
        · have HP2 : Hid (len ≤ 20) := hc2
          have hl2 : (len : Int) ≤ 20 := by omega
          clear hc2
          have HF : Hid PP := by rw [← HPP.out]; exact ⟨(HP0.out), (HP1.out), (HP2.out)⟩
          go_enter Tryd.func80, Tryd.ntmps80
          go_wp2_with fail
          go_ret
          exact bres_yes HF.out hA
        · have HF : Hid (¬ PP) := by rw [← HPP.out]; exact fun h => hc2 h.2.2
          have hl2 : ¬ (len : Int) ≤ 20 := by omega
          clear hc2
          go_enter Tryd.func80, Tryd.ntmps80
          go_wp2_with fail
          go_ret
          exact bres_no HF.out hA
      · have HF : Hid (¬ PP) := by rw [← HPP.out]; exact fun h => hc1 h.2.1
        have he : s.toList.isEmpty = false := empty_no hc1
        clear hc1
        go_enter Tryd.func80, Tryd.ntmps80
        go_wp2_with fail
        go_ret
        exact bres_no HF.out hA
    · have HF : Hid (¬ PP) := by rw [← HPP.out]; exact fun h => hc0 h.1
      have hn0 : (n != 0) = true := by simp [hc0]
      clear hc0
      go_enter Tryd.func80, Tryd.ntmps80
      go_wp2_with fail
      go_ret
      exact bres_no HF.out hA
  by_cases h5 : k = 5
  · subst h5
    rw [shapeF5]
    obtain ⟨PP, hPP⟩ : ∃ P : Prop, (n = 0 ∧ s.size = 0 ∧ len ≤ 20) = P := ⟨_, rfl⟩
    have HPP : Hid ((n = 0 ∧ s.size = 0 ∧ len ≤ 20) = PP) := hPP
    rw [hPP]
    clear hPP
    by_cases hc0 : n = 0
    · have HP0 : Hid (n = 0) := hc0
      have hn0 : (n != 0) = false := by simp [hc0]
      clear hc0
      by_cases hc1 : s.size = 0
      · have HP1 : Hid (s.size = 0) := hc1
        have he : s.toList.isEmpty = true := (empty_iff s).2 hc1
        clear hc1
        by_cases hc2 : len ≤ 20
        · have HP2 : Hid (len ≤ 20) := hc2
          have hl2 : (len : Int) ≤ 20 := by omega
          clear hc2
          have HF : Hid PP := by rw [← HPP.out]; exact ⟨(HP0.out), (HP1.out), (HP2.out)⟩
          go_enter Tryd.func80, Tryd.ntmps80
          go_wp2_with fail
          go_ret
          exact bres_yes HF.out hA
        · have HF : Hid (¬ PP) := by rw [← HPP.out]; exact fun h => hc2 h.2.2
          have hl2 : ¬ (len : Int) ≤ 20 := by omega
          clear hc2
          go_enter Tryd.func80, Tryd.ntmps80
          go_wp2_with fail
          go_ret
          exact bres_no HF.out hA
      · have HF : Hid (¬ PP) := by rw [← HPP.out]; exact fun h => hc1 h.2.1
        have he : s.toList.isEmpty = false := empty_no hc1
        clear hc1
        go_enter Tryd.func80, Tryd.ntmps80
        go_wp2_with fail
        go_ret
        exact bres_no HF.out hA
    · have HF : Hid (¬ PP) := by rw [← HPP.out]; exact fun h => hc0 h.1
      have hn0 : (n != 0) = true := by simp [hc0]
      clear hc0
      go_enter Tryd.func80, Tryd.ntmps80
      go_wp2_with fail
      go_ret
      exact bres_no HF.out hA
  by_cases h6 : k = 6
  · subst h6
    rw [shapeF6]
    obtain ⟨PP, hPP⟩ : ∃ P : Prop, (n = 0 ∧ s.size = 0 ∧ 2 ≤ (len : Int) ∧ (len : Int) ≤ 6) = P := ⟨_, rfl⟩
    have HPP : Hid ((n = 0 ∧ s.size = 0 ∧ 2 ≤ (len : Int) ∧ (len : Int) ≤ 6) = PP) := hPP
    rw [hPP]
    clear hPP
    by_cases hc0 : n = 0
    · have HP0 : Hid (n = 0) := hc0
      have hn0 : (n != 0) = false := by simp [hc0]
      clear hc0
      by_cases hc1 : s.size = 0
      · have HP1 : Hid (s.size = 0) := hc1
        have he : s.toList.isEmpty = true := (empty_iff s).2 hc1
        clear hc1
        by_cases hc2 : 2 ≤ (len : Int)
        · have HP2 : Hid (2 ≤ (len : Int)) := hc2
          have hd91 : 2 ≤ (len : Int) := hc2
          clear hc2
          by_cases hc3 : (len : Int) ≤ 6
          · have HP3 : Hid ((len : Int) ≤ 6) := hc3
            have hd41 : (len : Int) ≤ 6 := hc3
            clear hc3
            have HF : Hid PP := by rw [← HPP.out]; exact ⟨(HP0.out), (HP1.out), (HP2.out), (HP3.out)⟩
            go_enter Tryd.func80, Tryd.ntmps80
            go_wp2_with fail
            go_ret
            exact bres_yes HF.out hA
          · have HF : Hid (¬ PP) := by rw [← HPP.out]; exact fun h => hc3 h.2.2.2
            have hd41 : ¬ (len : Int) ≤ 6 := hc3
            clear hc3
            go_enter Tryd.func80, Tryd.ntmps80
            go_wp2_with fail
            go_ret
            exact bres_no HF.out hA
        · have HF : Hid (¬ PP) := by rw [← HPP.out]; exact fun h => hc2 h.2.2.1
          have hd91 : ¬ 2 ≤ (len : Int) := hc2
          clear hc2
          go_enter Tryd.func80, Tryd.ntmps80
          go_wp2_with fail
          go_ret
          exact bres_no HF.out hA
      · have HF : Hid (¬ PP) := by rw [← HPP.out]; exact fun h => hc1 h.2.1
        have he : s.toList.isEmpty = false := empty_no hc1
        clear hc1
        go_enter Tryd.func80, Tryd.ntmps80
        go_wp2_with fail
        go_ret
        exact bres_no HF.out hA
    · have HF : Hid (¬ PP) := by rw [← HPP.out]; exact fun h => hc0 h.1
      have hn0 : (n != 0) = true := by simp [hc0]
      clear hc0
      go_enter Tryd.func80, Tryd.ntmps80
      go_wp2_with fail
      go_ret
      exact bres_no HF.out hA
  · have HF : Hid (¬ ShapeF k n s len) := fun h => by rcases h with h | h | h | ⟨h | h, _⟩ | h <;> first | exact h1 h.1 | exact h2 h.1 | exact h3 h.1 | exact h4 h | exact h5 h | exact h6 h.1
    have q1 : (k == 1) = false := by simp [h1]
    have p1 : (k != 1) = true := by simp [h1]
    have q2 : (k == 2) = false := by simp [h2]
    have p2 : (k != 2) = true := by simp [h2]
    have q3 : (k == 3) = false := by simp [h3]
    have p3 : (k != 3) = true := by simp [h3]
    have q4 : (k == 4) = false := by simp [h4]
    have p4 : (k != 4) = true := by simp [h4]
    have q5 : (k == 5) = false := by simp [h5]
    have p5 : (k != 5) = true := by simp [h5]
    have q6 : (k == 6) = false := by simp [h6]
    have p6 : (k != 6) = true := by simp [h6]
    clear h1 h2 h3 h4 h5 h6
    by_cases hn : n = 0
    · have hn0 : (n != 0) = false := by simp [hn]
      clear hn
      by_cases hq : s.size = 0
      · have he : s.toList.isEmpty = true := (empty_iff s).2 hq
        clear hq
        go_enter Tryd.func80, Tryd.ntmps80
        go_wp2_with fail
        go_ret
        exact bres_no HF.out hA
      · have he : s.toList.isEmpty = false := empty_no hq
        clear hq
        go_enter Tryd.func80, Tryd.ntmps80
        go_wp2_with fail
        go_ret
        exact bres_no HF.out hA
    · have hn0 : (n != 0) = true := by simp [hn]
      clear hn
      go_enter Tryd.func80, Tryd.ntmps80
      go_wp2_with fail
      go_ret
      exact bres_no HF.out hA

end Go.Proofs.YtfachfimdenapaaDoor

/- A pattern that is gone through: what is kept of it, and a slot that is taken. -/
namespace Go.Proofs.YtfachfimdenapaaDoor
open Go.RowKit
set_option linter.unusedVariables false

/-- What lies in the block: how many slots there are, how many may be left, which slots are taken. -/
def FgA (w : World) (p : Nat) (sl L : Int) (tk : List Int) : Prop :=
  ∃ c : Array Value, w.heap[p]? = some (.cells c 112 (0, 0)) ∧ c.size = 402 ∧ c[0]? = some (.int .i64 sl) ∧ c[1]? = some (.int .i64 L) ∧ ∀ i : Nat, i < 400 → c[2 + i]? = some (.bool (decide ((i : Int) ∈ tk)))

theorem FgA.lt {w : World} {p : Nat} {sl L : Int} {tk : List Int} (h : FgA w p sl L tk) : p < w.heap.size := by
  obtain ⟨c, h1, _⟩ := h
  exact lt_row h1
theorem FgA.slots {w : World} {p : Nat} {sl L : Int} {tk : List Int} (h : FgA w p sl L tk) : w.cell? ⟨p, 0, none⟩ = some (.int .i64 sl) := by
  obtain ⟨c, h1, _, h2, _⟩ := h
  rw [cell_of_row w _ 0 _ _ _ h1]; exact h2
theorem FgA.left {w : World} {p : Nat} {sl L : Int} {tk : List Int} (h : FgA w p sl L tk) : w.cell? ⟨p, 1, none⟩ = some (.int .i64 L) := by
  obtain ⟨c, h1, _, _, h2, _⟩ := h
  rw [cell_of_row w _ 1 _ _ _ h1]; exact h2
theorem FgA.slot {w : World} {p : Nat} {sl L : Int} {tk : List Int} (h : FgA w p sl L tk) (i : Nat) (hi : i < 400) : w.cell? ⟨p, 2 + i, none⟩ = some (.bool (decide ((i : Int) ∈ tk))) := by
  obtain ⟨c, h1, _, _, _, h2⟩ := h
  rw [cell_of_row w _ _ _ _ _ h1]; exact h2 i hi
theorem FgA.thaw {w : World} {p : Nat} {sl L : Int} {tk : List Int} (h : FgA w p sl L tk) (i : Nat) : w.frozen? ⟨p, i, none⟩ = false := by
  obtain ⟨c, h1, _⟩ := h
  exact frozen_of_row w _ _ _ _ h1
theorem FgA.kept {w w' : World} {p : Nat} {sl L : Int} {tk : List Int} (h : FgA w p sl L tk) (hb : w'.heap[p]? = w.heap[p]?) : FgA w' p sl L tk := by
  obtain ⟨c, h1, h2⟩ := h
  exact ⟨c, hb.trans h1, h2⟩
theorem FgA.less {w : World} {p : Nat} {sl L : Int} {tk : List Int} (h : FgA w p sl L tk) (L' : Int) : FgA (w.setCell ⟨p, 1, none⟩ (.int .i64 L')) p sl L' tk := by
  obtain ⟨c, h1, h2, h3, h4, h5⟩ := h
  refine ⟨_, heap_setCell_same w p 1 _ _ _ h1, by simpa using h2, ?_, ?_, fun i hi => ?_⟩
  · rw [Array.getElem?_setIfInBounds_ne (by omega)]; exact h3
  · rw [Array.getElem?_setIfInBounds_self_of_lt (by omega)]
  · rw [Array.getElem?_setIfInBounds_ne (by omega)]; exact h5 i hi
theorem FgA.take {w : World} {p : Nat} {sl L : Int} {tk : List Int} (h : FgA w p sl L tk) (k : Nat) (hk : k < 400) : FgA (w.setCell ⟨p, 2 + k, none⟩ (.bool true)) p sl L (tk ++ [(k : Int)]) := by
  obtain ⟨c, h1, h2, h3, h4, h5⟩ := h
  refine ⟨_, heap_setCell_same w p (2 + k) _ _ _ h1, by simpa using h2, ?_, ?_, fun i hi => ?_⟩
  · rw [Array.getElem?_setIfInBounds_ne (by omega)]; exact h3
  · rw [Array.getElem?_setIfInBounds_ne (by omega)]; exact h4
  · by_cases e : i = k
    · subst e
      rw [Array.getElem?_setIfInBounds_self_of_lt (by omega)]
      simp
    · rw [Array.getElem?_setIfInBounds_ne (by omega), h5 i hi]
      have : ((i : Int) ∈ tk ++ [(k : Int)]) ↔ (i : Int) ∈ tk := by simp; omega
      simp [this]

/-- A slot that may be taken. -/
def TakesP (sl : Int) (tk : List Int) (n : Int) : Prop := n = -1 ∨ (0 ≤ n ∧ n < sl ∧ n ∉ tk)
def TkRes (P : Prop) (p : Nat) (sl L : Int) (tk : List Int) (w : World) (r : Ending) (w' : World) : Prop := ∃ b : Bool, r = .returned (.bool b) ∧ (b = true ↔ P) ∧ (b = true → FgA w' p sl L tk) ∧ Turned p w w'
theorem tk_yes {P : Prop} {p : Nat} {sl L : Int} {tk : List Int} {w w' : World} (h : P) (h1 : FgA w' p sl L tk) (h2 : Turned p w w') : TkRes P p sl L tk w (.returned (.bool true)) w' := ⟨true, rfl, iff_yes h, fun _ => h1, h2⟩
theorem tk_no {P : Prop} {p : Nat} {sl L : Int} {tk : List Int} {w w' : World} (h : ¬ P) (h2 : Turned p w w') : TkRes P p sl L tk w (.returned (.bool false)) w' := ⟨false, rfl, iff_no h, (fun e => Bool.noConfusion e), h2⟩

set_option maxRecDepth 100000 in
set_option maxHeartbeats 4000000 in
theorem takes_any (p : Nat) (sl L n : Int) (tk : List Int) (w : World) (h : FgA w p sl L tk) (hs0 : 0 ≤ sl) (hs1 : sl ≤ 400) (hn : I64 n) :
    Calls Tryd.prog 81 #[.pointer (some ⟨p, 0, none⟩), .int .i64 n] w fun r w' => TkRes (TakesP sl tk n) p sl L (tk ++ ownSlot 3 n) w r w' := by
  have HG : Hid (FgA w p sl L tk) := h
  have c0 := h.slots
  have hpz := h.lt
  by_cases h1 : n = -1
  · have HY : Hid (TakesP sl tk n) := .inl h1
    have HF : Hid (FgA w p sl L (tk ++ ownSlot 3 n)) := by rw [h1, show ownSlot 3 (-1) = [] from by simp [ownSlot], List.append_nil]; exact h
    have q1 : (n == -1) = true := by simp [h1]
    clear h h1
    go_enter Tryd.func81, Tryd.ntmps81
    go_wp2_with fail
    go_ret
    exact tk_yes HY.out HF.out (Turned.refl _ _)
  have q1 : (n == -1) = false := by simp [h1]
  by_cases h2 : n < 0
  · have HN : Hid (¬ TakesP sl tk n) := fun h => by rcases h with h | h; exact h1 h; omega
    clear h h1
    go_enter Tryd.func81, Tryd.ntmps81
    go_wp2_with fail
    go_ret
    exact tk_no HN.out (Turned.refl _ _)
  by_cases h3 : sl ≤ n
  · have HN : Hid (¬ TakesP sl tk n) := fun h => by rcases h with h | h; exact h1 h; omega
    clear h h1
    go_enter Tryd.func81, Tryd.ntmps81
    go_wp2_with fail
    go_ret
    exact tk_no HN.out (Turned.refl _ _)
  obtain ⟨k, rfl⟩ : ∃ k : Nat, n = k := ⟨n.toNat, by omega⟩
  have hk : k < 400 := by omega
  have ck := h.slot k hk
  by_cases h4 : (k : Int) ∈ tk
  · have HN : Hid (¬ TakesP sl tk k) := fun h => by rcases h with h | h; exact h1 h; exact h.2.2 h4
    rw [show decide ((k : Int) ∈ tk) = true from by simp [h4]] at ck
    clear h h1 h4
    go_enter Tryd.func81, Tryd.ntmps81
    go_wp2_with fail
    go_ret
    exact tk_no HN.out (Turned.refl _ _)
  · have HY : Hid (TakesP sl tk k) := .inr ⟨by omega, by omega, h4⟩
    have HF : Hid (FgA (w.setCell ⟨p, 2 + k, none⟩ (.bool true)) p sl L (tk ++ ownSlot 3 k)) := by
      have := h.take k hk
      rw [show ownSlot 3 (k : Int) = [(k : Int)] from by unfold ownSlot; rw [if_pos ⟨rfl, h1⟩]]
      exact this
    have zk := h.thaw (2 + k)
    rw [show decide ((k : Int) ∈ tk) = false from by simp [h4]] at ck
    clear h h1 h4
    go_enter Tryd.func81, Tryd.ntmps81
    go_wp2_with fail
    go_ret
    exact tk_yes HY.out HF.out (Turned.of_set _ _ _ _)

end Go.Proofs.YtfachfimdenapaaDoor

/- The program's way through a pattern by slots: what it asks, as data. -/
namespace Go.Proofs.YtfachfimdenapaaDoor
open Go.RowKit
set_option linter.unusedVariables false

def FineP (sl : Int) : (d : Nat) → Int → Tm d → Prop
  | 0, _, _ => False
  | d + 1, D, x => 1 ≤ D ∧ ShapeQ sl x.K x.N x.S x.L.length ∧ ∀ t ∈ x.L, FineP sl d (D - 1) t
def cntT : (d : Nat) → Tm d → Nat
  | 0, _ => 0
  | d + 1, x => 1 + (x.L.map (cntT d)).sum
/-- Right, of no more than are left, no slot twice. -/
def FitsP (sl : Int) (d : Nat) (D L : Int) (tk : List Int) (x : Tm d) : Prop := FineP sl d D x ∧ (cntT d x : Int) ≤ L ∧ (tk ++ slotsP d x).Nodup
/-- .. the first j parts. -/
def PrP (sl : Int) (d : Nat) (D L : Int) (tk : List Int) (ts : List (Tm d)) (j : Nat) : Prop := (∀ t ∈ ts.take j, FineP sl d (D - 1) t) ∧ ((1 + sumP (cntT d) ts j : Nat) : Int) ≤ L ∧ (tk ++ (ts.take j).flatMap (slotsP d)).Nodup

theorem mem_take_next {α : Type} {xs : List α} {j : Nat} {x y : α} (h : xs[j]? = some x) (hy : y ∈ xs.take (j + 1)) : y ∈ xs.take j ∨ y = x := by
  have hl := (List.getElem?_eq_some_iff.1 h).1
  rw [List.take_succ_eq_append_getElem hl, (List.getElem?_eq_some_iff.1 h).2] at hy
  simpa using hy
theorem flat_next {α β : Type} (f : α → List β) {xs : List α} {j : Nat} {x : α} (h : xs[j]? = some x) : (xs.take (j + 1)).flatMap f = (xs.take j).flatMap f ++ f x := by
  have hl := (List.getElem?_eq_some_iff.1 h).1
  rw [List.take_succ_eq_append_getElem hl, (List.getElem?_eq_some_iff.1 h).2]
  simp
theorem sumP_end {α : Type} (f : α → Nat) (xs : List α) : sumP f xs xs.length = (xs.map f).sum := by unfold sumP; rw [List.take_length]

theorem PrP.start {sl : Int} {d : Nat} {D L : Int} {tk : List Int} {ts : List (Tm d)} (h : 1 ≤ L) (hn : tk.Nodup) : PrP sl d D L tk ts 0 :=
  ⟨fun x hx => by simp at hx, by show ((1 + 0 : Nat) : Int) ≤ L; omega, by simpa using hn⟩
theorem PrP.step {sl : Int} {d : Nat} {D L : Int} {tk : List Int} {ts : List (Tm d)} {j : Nat} {x : Tm d} (hx : ts[j]? = some x) (h : PrP sl d D L tk ts j) (hf : FitsP sl d (D - 1) (L - 1 - sumP (cntT d) ts j) (tk ++ (ts.take j).flatMap (slotsP d)) x) : PrP sl d D L tk ts (j + 1) := by
  have h1 := sumP_succ (cntT d) ts j x hx
  obtain ⟨f1, f2, f3⟩ := hf
  refine ⟨fun y hy => ?_, by omega, ?_⟩
  · rcases mem_take_next hx hy with h2 | rfl
    · exact h.1 y h2
    · exact f1
  · rw [flat_next _ hx, ← List.append_assoc]; exact f3
theorem FitsP.all {sl : Int} {d : Nat} {D L : Int} {tk : List Int} {x : Tm (d + 1)} (hd : 1 ≤ D) (hs : ShapeQ sl x.K x.N x.S x.L.length) (h : PrP sl d D L (tk ++ ownSlot x.K x.N) x.L x.L.length) : FitsP sl (d + 1) D L tk x := by
  obtain ⟨h1, h2, h3⟩ := h
  rw [List.take_length] at h1 h3
  rw [sumP_end] at h2
  refine ⟨⟨hd, hs, h1⟩, h2, ?_⟩
  show (tk ++ (ownSlot x.K x.N ++ x.L.flatMap (slotsP d))).Nodup
  rw [← List.append_assoc]
  exact h3
theorem FitsP.part {sl : Int} {d : Nat} {D L : Int} {tk : List Int} {x : Tm (d + 1)} (h : FitsP sl (d + 1) D L tk x) {j : Nat} {t : Tm d} (ht : x.L[j]? = some t) : FitsP sl d (D - 1) (L - 1 - sumP (cntT d) x.L j) (tk ++ ownSlot x.K x.N ++ (x.L.take j).flatMap (slotsP d)) t := by
  obtain ⟨⟨_, _, h3⟩, h5, h6⟩ := h
  have h1 := sumP_succ (cntT d) x.L j t ht
  have h2 := sumP_le (cntT d) x.L (j + 1)
  have h4 : cntT (d + 1) x = 1 + (x.L.map (cntT d)).sum := rfl
  refine ⟨h3 t (List.mem_of_getElem? ht), by omega, ?_⟩
  have e : slotsP (d + 1) x = ownSlot x.K x.N ++ x.L.flatMap (slotsP d) := rfl
  rw [e, ← List.take_append_drop (j + 1) x.L, List.flatMap_append, flat_next _ ht, ← List.append_assoc, ← List.append_assoc, ← List.append_assoc] at h6
  exact (List.nodup_append.1 h6).1
theorem cntT_pos (d : Nat) (x : Tm (d + 1)) : 1 ≤ cntT (d + 1) x := by show 1 ≤ 1 + _; omega

/-! The same as the model's words. -/
theorem fine_okQ (sl : Int) : ∀ (d : Nat) (ts : List (Tm d)) (D : Int), (∀ t ∈ ts, FineP sl d D t) ↔ OkQ sl d ts ∧ (ts = [] ∨ (depL d ts : Int) ≤ D) := by
  intro d
  induction d with
  | zero =>
    intro ts D
    cases ts with
    | nil => exact ⟨fun _ => ⟨trivial, .inl rfl⟩, fun _ t ht => by simp at ht⟩
    | cons t _ => exact Empty.elim t
  | succ d ih =>
    intro ts D
    constructor
    · intro h
      refine ⟨fun t ht => ⟨(h t ht).2.1, ((ih t.L (D - 1)).1 (h t ht).2.2).1⟩, ?_⟩
      by_cases he : ts = []
      · exact .inl he
      · right
        obtain ⟨t0, ht0⟩ := List.exists_mem_of_ne_nil ts he
        have h0 := (h t0 ht0).1
        have : depL (d + 1) ts ≤ D.toNat := depL_le.2 fun t ht => by
          have h1 := (h t ht).1
          rcases ((ih t.L (D - 1)).1 (h t ht).2.2).2 with e | e
          · rw [e]
            have : depL d [] = 0 := by cases d <;> rfl
            omega
          · omega
        omega
    · rintro ⟨h1, h2⟩ t ht
      have h3 := h1 t ht
      rcases h2 with rfl | h2
      · simp at ht
      · have h4 : 1 + depL d t.L ≤ depL (d + 1) ts := (depL_le (m := depL (d + 1) ts)).1 (Nat.le_refl _) t ht
        exact ⟨by omega, h3.1, (ih t.L (D - 1)).2 ⟨h3.2, .inr (by omega)⟩⟩
theorem cntL_sum : ∀ (d : Nat) (ts : List (Tm d)), cntL d ts = (ts.map (cntT d)).sum := by
  intro d
  induction d with
  | zero =>
    intro ts
    cases ts with
    | nil => rfl
    | cons t _ => exact Empty.elim t
  | succ d ih =>
    intro ts
    show (ts.map fun t => 1 + cntL d t.L).sum = (ts.map fun x => 1 + (x.L.map (cntT d)).sum).sum
    simp only [ih]
theorem fits_pat (sl : Int) (d : Nat) (x : Tm (d + 1)) : FitsP sl (d + 1) 10 300 [] x ↔ RightQ sl d x.K x.N x.S x.L 10 300 ∧ (slotsP (d + 1) x).Nodup := by
  have e1 := fine_okQ sl d x.L (10 - 1)
  have e2 := cntL_sum d x.L
  have e3 : cntT (d + 1) x = 1 + (x.L.map (cntT d)).sum := rfl
  have e4 : depL d ([] : List (Tm d)) = 0 := by cases d <;> rfl
  unfold FitsP RightQ
  rw [List.nil_append]
  constructor
  · rintro ⟨⟨_, h2, h3⟩, h4, h5⟩
    obtain ⟨q1, q2⟩ := e1.1 h3
    refine ⟨⟨h2, q1, ?_, by omega⟩, h5⟩
    rcases q2 with q | q
    · rw [q, e4]; decide
    · omega
  · rintro ⟨⟨h1, h2, h3, h4⟩, h5⟩
    exact ⟨⟨by omega, h1, e1.2 ⟨h2, .inr (by omega)⟩⟩, by omega, h5⟩

end Go.Proofs.YtfachfimdenapaaDoor

/- The program's way through a pattern by slots. -/
namespace Go.Proofs.YtfachfimdenapaaDoor
open Go.RowKit
set_option linter.unusedVariables false

def PtC (sl : Int) (d : Nat) : Prop := ∀ (w0 : World) (vs : List Value) (x : Tm d) (deep L : Int) (p : Nat) (tk : List Int) (w : World), PatR d w0 vs x → WfPat d x → szPatD d x ≤ 1048576 → Below w0.heap.size w0 w → w0.heap.size ≤ p → FgA w p sl L tk → tk.Nodup → 1 ≤ deep → deep ≤ 1000 → 0 ≤ L → L ≤ 1000000 →
  Calls Tryd.prog 73 #[.pointer (some ⟨p, 0, none⟩), .agg vs.toArray, .int .i64 deep] w fun r w' => TkRes (FitsP sl d (11 - deep) L tk x) p sl (L - cntT d x) (tk ++ slotsP d x) w r w'

set_option maxRecDepth 100000 in
set_option maxHeartbeats 4000000 in
/-- What is refused at once. -/
theorem fits_no (PP : Prop) (tk' : List Int) (L' : Int) (sl k n : Int) (s : ByteArray) (a : Option Addr) (len c : Nat) (deep L : Int) (p : Nat) (tk : List Int) (w : World) (hs : s.size ≤ 9223372036854775807) (hl : len ≤ 9223372036854775807) (hn : I64 n)
    (hG : FgA w p sl L tk) (hsl : 0 ≤ sl) (hsl2 : sl ≤ 400) (hd0 : 1 ≤ deep) (hd1 : deep ≤ 1000) (hL0 : 0 ≤ L) (hL1 : L ≤ 1000000) (h : L = 0 ∨ 10 < deep ∨ ¬ ShapeF k n s len ∨ (k = 3 ∧ ¬ TakesP sl tk n)) (hPP : ¬ PP) :
    Calls Tryd.prog 73 #[.pointer (some ⟨p, 0, none⟩), .agg #[.int .i64 k, .int .i64 n, .string s, .slice a len c], .int .i64 deep] w fun r w' => TkRes PP p sl L' tk' w r w' := by
  have HN : Hid (¬ PP) := hPP
  have hpz := hG.lt
  have c1 := hG.left
  have z1 := hG.thaw 1
  have HT : Hid (∀ x : Int, Turned p w ((w.setCell ⟨p, 1, none⟩ (.int .i64 x)).alloc (.cells #[.int .i64 k, .int .i64 n, .string s, .slice a len c] 51))) := fun x => (Turned.of_set _ _ _ _).trans (Turned.of_below ((Below.refl _ _).alloc (Nat.le_refl _) _))
  clear hPP
  by_cases h1 : L = 0
  · subst h1
    clear h hG
    go_enter Tryd.func73, Tryd.ntmps73
    go_wp2_with fail
    go_ret
    exact tk_no HN.out (HT.out _)
  have hL2 : decide (L - 1 < 0) = false := by simp; omega
  by_cases h2 : 10 < deep
  · clear h hG h1
    go_enter Tryd.func73, Tryd.ntmps73
    go_wp2_with fail
    go_ret
    exact tk_no HN.out (HT.out _)
  obtain ⟨W, hW⟩ : ∃ W, W = (w.setCell ⟨p, 1, none⟩ (.int .i64 (L - 1))).alloc (.cells #[.int .i64 k, .int .i64 n, .string s, .slice a len c] 51) := ⟨_, rfl⟩
  have HTW : Hid (Turned p w W) := by rw [hW]; exact HT.out _
  have HGW : Hid (FgA W p sl (L - 1) tk) := by rw [hW]; exact (hG.less (L - 1)).kept (by rw [(((Below.refl _ _).alloc (Nat.le_refl _) _).block p (by simpa using hpz))])
  have hbx : W.heap[w.heap.size]? = some (.cells #[.int .i64 k, .int .i64 n, .string s, .slice a len c] 51 (0, 0)) := by
    rw [hW, show w.heap.size = (w.setCell ⟨p, 1, none⟩ (.int .i64 (L - 1))).heap.size from by simp]; exact heap_alloc_new _ _
  have HBX : Hid (W.heap[w.heap.size]? = some (.cells #[.int .i64 k, .int .i64 n, .string s, .slice a len c] 51 (0, 0))) := hbx
  have hC := patFieldsFit_any k n s a len c W hs hl
  rw [hW] at hC
  have HW : Hid (W = _) := hW
  have HH : Hid (¬ ShapeF k n s len ∨ (k = 3 ∧ ¬ TakesP sl tk n)) := by
    rcases h with h | h | h
    · exact absurd h h1
    · exact absurd h h2
    · exact h
  clear h hG h1 hW hbx
  go_enter Tryd.func73, Tryd.ntmps73
  go_wp2_with fail
  refine hC.mono ?_
  clear hC
  rintro e w1 ⟨b, rfl, hb, hB⟩
  rw [← HW.out] at hB
  have HT1 : Hid (Turned p w w1) := HTW.out.trans (Turned.of_below hB)
  cases b with
  | false =>
    clear hb hB HTW HGW HBX HW HH
    go_wp2_with fail
    go_ret
    exact tk_no HN.out HT1.out
  | true =>
    obtain ⟨h3, h4⟩ : k = 3 ∧ ¬ TakesP sl tk n := by
      rcases HH.out with h | h
      · exact absurd (hb.1 rfl) h
      · exact h
    have HG1 : Hid (FgA w1 p sl (L - 1) tk) := HGW.out.kept (hB.block _ HGW.out.lt)
    have hb1 := (hB.block _ (lt_row HBX.out)).trans HBX.out
    have d0 : w1.cell? ⟨w.heap.size, 0, none⟩ = some (.int .i64 k) := by rw [cell_of_row w1 _ 0 _ _ _ hb1]; rfl
    have d1 : w1.cell? ⟨w.heap.size, 1, none⟩ = some (.int .i64 n) := by rw [cell_of_row w1 _ 1 _ _ _ hb1]; rfl
    have hC := takes_any p sl (L - 1) n tk w1 HG1.out hsl hsl2 hn
    have HNT : Hid (¬ TakesP sl tk n) := h4
    subst h3
    clear hb hB HTW HGW HBX HW HH h4 hb1
    go_wp2_with fail
    refine hC.mono ?_
    clear hC
    rintro e w2 ⟨b, rfl, hb, _, hT2⟩
    have : b = false := by cases b; rfl; exact absurd (hb.1 rfl) HNT.out
    subst this
    have HT2 : Hid (Turned p w w2) := HT1.out.trans hT2
    clear hb hT2 d0 d1 HG1
    go_wp2_with fail
    go_ret
    exact tk_no HN.out HT2.out

end Go.Proofs.YtfachfimdenapaaDoor

/- The program's way through a pattern by slots, all storeys. -/
namespace Go.Proofs.YtfachfimdenapaaDoor
open Go.RowKit
set_option linter.unusedVariables false

theorem takes_nodup {sl n : Int} {tk : List Int} (h : tk.Nodup) (ht : TakesP sl tk n) : (tk ++ ownSlot 3 n).Nodup := by
  rcases ht with rfl | ⟨h1, h2, h3⟩
  · simpa [ownSlot] using h
  · rw [show ownSlot 3 n = [n] from by unfold ownSlot; rw [if_pos ⟨rfl, by omega⟩], List.nodup_append]
    exact ⟨h, by simp, fun x hx y hy e => by simp at hy; subst hy; subst e; exact h3 hx⟩
theorem fits_refused {sl : Int} {d : Nat} {deep L : Int} {tk : List Int} {x : Tm (d + 1)} (hd0 : 1 ≤ deep) (h : L = 0 ∨ 10 < deep ∨ ¬ ShapeF x.K x.N x.S x.L.length ∨ (x.K = 3 ∧ ¬ TakesP sl tk x.N)) : ¬ FitsP sl (d + 1) (11 - deep) L tk x := by
  rintro ⟨⟨h1, h2, h3⟩, h4, h5⟩
  have h6 := cntT_pos d x
  obtain ⟨q1, q2⟩ := (shapeQ_iff _ _ _ _ _).1 h2
  rcases h with h | h | h | ⟨h, g⟩
  · omega
  · omega
  · exact h q1
  · refine g ?_
    have q3 := q2 h
    by_cases hn : x.N = -1
    · exact .inl hn
    · refine .inr ⟨by omega, by omega, fun hm => ?_⟩
      have e : slotsP (d + 1) x = ownSlot x.K x.N ++ x.L.flatMap (slotsP d) := rfl
      rw [e, h, show ownSlot 3 x.N = [x.N] from by unfold ownSlot; rw [if_pos ⟨rfl, hn⟩], List.nodup_append] at h5
      exact h5.2.2 x.N hm x.N (by simp) rfl

set_option maxRecDepth 100000 in
set_option maxHeartbeats 4000000 in
theorem fits_of (sl : Int) (hsl : 0 ≤ sl) (hsl2 : sl ≤ 400) (d : Nat) (H : PtC sl d) : PtC sl (d + 1) := by
  rintro w0 vs x deep L p tk w ⟨v3, rfl, h1⟩ ⟨wK, wN, wS, wE⟩ hz hb0 hp hG hnd hd0 hd1 hL0 hL1
  have hz' : x.S.size + szRow (szPatD d) x.L ≤ 1048576 := hz
  have hsE := sumP_all (szPatD d) x.L
  obtain ⟨a, c, rfl, hel⟩ := h1
  by_cases h : L = 0 ∨ 10 < deep ∨ ¬ ShapeF x.K x.N x.S x.L.length ∨ (x.K = 3 ∧ ¬ TakesP sl tk x.N)
  · exact fits_no _ _ _ sl x.K x.N x.S a x.L.length c deep L p tk w (by omega) (by omega) wN hG hsl hsl2 hd0 hd1 hL0 hL1 h (fits_refused hd0 h)
  have g1 : ¬ L = 0 := fun e => h (.inl e)
  have g2 : ¬ 10 < deep := fun e => h (.inr (.inl e))
  have HS : Hid (ShapeF x.K x.N x.S x.L.length) := Classical.byContradiction fun e => h (.inr (.inr (.inl e)))
  have g4 : x.K = 3 → TakesP sl tk x.N := fun e => Classical.byContradiction fun q => h (.inr (.inr (.inr ⟨e, q⟩)))
  have HSQ : Hid (ShapeQ sl x.K x.N x.S x.L.length) := (shapeQ_iff _ _ _ _ _).2 ⟨HS.out, fun e => by
    rcases g4 e with q | q
    · omega
    · omega⟩
  have HE : Hid (∀ (i : Nat) (t : Tm d), x.L[i]? = some t → ∃ b o vs, a = some ⟨b, o, none⟩ ∧ vs.length = 4 ∧ (∀ (j : Nat) (u : Value), vs[j]? = some u → w0.cell? ⟨b, o + i * 4 + j, none⟩ = some u) ∧ PatR d w0 vs t) := hel
  have HFA : Hid (PrP sl d (11 - deep) L (tk ++ ownSlot x.K x.N) x.L x.L.length → FitsP sl (d + 1) (11 - deep) L tk x) := fun q => FitsP.all (by omega) HSQ.out q
  have HPA : Hid (∀ (j : Nat) (t : Tm d), x.L[j]? = some t → FitsP sl (d + 1) (11 - deep) L tk x → FitsP sl d (11 - deep - 1) (L - 1 - sumP (cntT d) x.L j) (tk ++ ownSlot x.K x.N ++ (x.L.take j).flatMap (slotsP d)) t) := fun j t ht q => q.part ht
  have HZE : Hid (szRow (szPatD d) x.L ≤ 1048576) := by show _ ≤ _; omega
  have HWE : Hid (WfRow (WfPat d) x.L) := wE
  have HCN : Hid (cntT (d + 1) x = 1 + (x.L.map (cntT d)).sum) := rfl
  have HSL : Hid (slotsP (d + 1) x = ownSlot x.K x.N ++ x.L.flatMap (slotsP d)) := rfl
  obtain ⟨FN, hFN⟩ : ∃ F : Prop, FitsP sl (d + 1) (11 - deep) L tk x = F := ⟨_, rfl⟩
  obtain ⟨CN, hCN⟩ : ∃ F : Nat, cntT (d + 1) x = F := ⟨_, rfl⟩
  obtain ⟨SN, hSN⟩ : ∃ F : List Int, slotsP (d + 1) x = F := ⟨_, rfl⟩
  rw [hFN] at HPA HFA
  rw [hCN] at HCN
  rw [hSN] at HSL
  rw [hFN, hCN, hSN]
  obtain ⟨ES, hES⟩ : ∃ l, x.L = l := ⟨_, rfl⟩
  obtain ⟨K, hK⟩ : ∃ K, x.K = K := ⟨_, rfl⟩
  obtain ⟨N, hN⟩ : ∃ N, x.N = N := ⟨_, rfl⟩
  obtain ⟨S, hS⟩ : ∃ S, x.S = S := ⟨_, rfl⟩
  rw [hES] at HE HFA HPA HZE hsE HCN HSL HWE HS hz'
  rw [hK, hN] at HFA HPA HSL HS g4
  rw [hS] at HS hz'
  rw [hN] at wN
  rw [hK, hN, hS, hES]
  have hs0 : S.size ≤ 9223372036854775807 := by omega
  have hlE : ES.length ≤ 1048576 := by omega
  clear hK hN hS hES hFN hCN hSN hz hz' hel hsE h wE wK wS HSQ
  obtain ⟨len, hl⟩ : ∃ l, ES.length = l := ⟨_, rfl⟩
  have HL : Hid (ES.length = len) := hl
  rw [hl] at HFA HS hlE ⊢
  clear hl
  have hpz := hG.lt
  have c1 := hG.left
  have z1 := hG.thaw 1
  obtain ⟨V, hV⟩ : ∃ V, V = (w.setCell ⟨p, 1, none⟩ (.int .i64 (L - 1))).alloc (.cells #[.int .i64 K, .int .i64 N, .string S, .slice a len c] 51) := ⟨_, rfl⟩
  have hT : Turned p w V := by rw [hV]; exact (Turned.of_set _ _ _ _).trans (Turned.of_below ((Below.refl _ _).alloc (Nat.le_refl _) _))
  have HGV : Hid (FgA V p sl (L - 1) tk) := by rw [hV]; exact (hG.less (L - 1)).kept (by rw [(((Below.refl _ _).alloc (Nat.le_refl _) _).block p (by simpa using hpz))])
  have hVt : V.heap[w.heap.size]? = some (.cells #[.int .i64 K, .int .i64 N, .string S, .slice a len c] 51 (0, 0)) := by
    rw [hV, show w.heap.size = (w.setCell ⟨p, 1, none⟩ (.int .i64 (L - 1))).heap.size from by simp]; exact heap_alloc_new _ _
  have hC := patFieldsFit_any K N S a len c V hs0 (by omega)
  rw [hV] at hC
  have HV : Hid (V = _) := hV
  have HI : Hid (PtC sl d) := H
  have hL2 : decide (L - 1 < 0) = false := by simp; omega
  have HND : Hid (tk.Nodup) := hnd
  clear hV H hG hnd
  go_enter Tryd.func73, Tryd.ntmps73
  go_wp2_with fail
  refine hC.mono ?_
  clear hC
  rintro e w1 ⟨b, rfl, hb, hB⟩
  rw [← HV.out] at hB
  have HT1 : Hid (Turned p w w1) := hT.trans (Turned.of_below hB)
  have : b = true := hb.2 HS.out
  subst this
  have HG1 : Hid (FgA w1 p sl (L - 1) tk) := HGV.out.kept (hB.block _ HGV.out.lt)
  have HB1 : Hid (w1.heap[w.heap.size]? = _) := (hB.block _ (lt_row hVt)).trans hVt
  have d0 : w1.cell? ⟨w.heap.size, 0, none⟩ = some (.int .i64 K) := by rw [cell_of_row w1 _ 0 _ _ _ HB1.out]; rfl
  have d1 : w1.cell? ⟨w.heap.size, 1, none⟩ = some (.int .i64 N) := by rw [cell_of_row w1 _ 1 _ _ _ HB1.out]; rfl
  have d3 : w1.cell? ⟨w.heap.size, 3, none⟩ = some (.slice a len c) := by rw [cell_of_row w1 _ 3 _ _ _ HB1.out]; rfl
  clear hb hB HV hT hVt c1 z1 HGV
  by_cases hk3 : K = 3
  · have HTK : Hid (TakesP sl tk N) := g4 hk3
    have hl0 : len = 0 := by
      have := HS.out
      rw [hk3, shapeF3] at this
      exact this.2
    have HE0 : Hid (ES = []) := List.length_eq_zero_iff.1 (by rw [HL.out]; exact hl0)
    subst hk3
    subst hl0
    have hC := takes_any p sl (L - 1) N tk w1 HG1.out hsl hsl2 wN
    clear g4
    go_wp2_with fail
    refine hC.mono ?_
    clear hC
    rintro e w2 ⟨b, rfl, hb, hg2, hT2⟩
    have : b = true := hb.2 HTK.out
    subst this
    have HT2 : Hid (Turned p w w2) := HT1.out.trans hT2
    have HG2 : Hid (FgA w2 p sl (L - CN) (tk ++ SN)) := by
      have := hg2 rfl
      show FgA _ _ _ _ _
      rw [HSL.out, HE0.out, HCN.out, HE0.out]
      simpa using this
    have HFN : Hid FN := HFA.out (by
      have := PrP.start (sl := sl) (D := 11 - deep) (L := L) (ts := ES) (by omega) (takes_nodup HND.out HTK.out)
      exact this)
    have d3' : w2.cell? ⟨w.heap.size, 3, none⟩ = some (.slice a 0 c) := by
      rw [cell_of_row w2 _ 3 _ _ _ ((hT2.block _ (lt_row HB1.out) (by omega)).trans HB1.out)]; rfl
    clear hb hg2 hT2 d0 d1 d3 HG1
    go_wp2_with fail
    refine wp_loop_rounds 1 ?_
    rw [rounds_succ]
    go_wp2
    go_ret
    exact tk_yes HFN.out HG2.out HT2.out
  have hk3' : (K == 3) = false := by simp [hk3]
  have HOS : Hid (ownSlot K N = []) := by show _ = _; unfold ownSlot; rw [if_neg (fun e => hk3 e.1)]
  rw [HOS.out, List.append_nil] at HFA
  have HPB : Hid (∀ (j : Nat) (t : Tm d), ES[j]? = some t → FN → FitsP sl d (11 - deep - 1) (L - 1 - sumP (cntT d) ES j) (tk ++ (ES.take j).flatMap (slotsP d)) t) := fun j t ht q => by
    have := HPA.out j t ht q
    rw [HOS.out, List.append_nil] at this
    exact this
  clear g4 hk3 HPA
  go_wp2_with fail
  go_loopw [45] (fun i wr => ∃ j : Nat, j ≤ len ∧ i = .int .i64 j ∧ Hid (Turned p w1 wr) ∧ Hid (FgA wr p sl (L - 1 - sumP (cntT d) ES j) (tk ++ (ES.take j).flatMap (slotsP d))) ∧ Hid (PrP sl d (11 - deep) L tk ES j)) (fun i _ => len - (intOf i).toNat)
  case atStart => exact ⟨0, Nat.zero_le _, rfl, Turned.refl _ _, by
    show FgA _ _ _ (L - 1 - ((0 : Nat) : Int)) (tk ++ [])
    rw [List.append_nil, show L - 1 - ((0 : Nat) : Int) = L - 1 from by omega]
    exact HG1.out, PrP.start (by omega) HND.out⟩
  case round =>
    obtain ⟨j, hj, rfl, hTr, hPr, hR⟩ := hrel
    have hTw : Turned p w wr := HT1.out.trans hTr.out
    have hb1 : Below w0.heap.size w0 wr := hb0.trans (hTw.below hp hb0.size)
    have hpr : p < wr.heap.size := hPr.out.lt
    by_cases hjl : j < len
    · obtain ⟨t, ht⟩ : ∃ t, ES[j]? = some t := ⟨_, List.getElem?_eq_getElem (by rw [HL.out]; exact hjl)⟩
      obtain ⟨b, o, vs, rfl, hvl, hcl, hre⟩ := HE.out j t ht
      obtain ⟨y0, y1, y2, ya3, yl3, yc3, rfl⟩ := PatR.shape _ _ _ _ hre
      have f0 : wr.cell? ⟨b, o + j * 4, none⟩ = some _ := cell_later hb1 (hcl 0 _ rfl)
      have f1 : wr.cell? ⟨b, o + j * 4 + 1, none⟩ = some _ := cell_later hb1 (hcl 1 _ rfl)
      have f2 : wr.cell? ⟨b, o + j * 4 + 2, none⟩ = some _ := cell_later hb1 (hcl 2 _ rfl)
      have f3 : wr.cell? ⟨b, o + j * 4 + 3, none⟩ = some _ := cell_later hb1 (hcl 3 _ rfl)
      have hstep := sumP_succ (cntT d) ES j t ht
      have hle := hR.out.2.1
      have hC : ∀ X, Below wr.heap.size wr X → Calls Tryd.prog 73 #[.pointer (some ⟨p, 0, none⟩), .agg #[.int .i64 y0, .int .i64 y1, .string y2, .slice ya3 yl3 yc3], .int .i64 (deep + 1)] X fun e w' => ∃ b : Bool, e = .returned (.bool b) ∧
          (b = true → Hid (FgA w' p sl (L - 1 - sumP (cntT d) ES (j + 1)) (tk ++ (ES.take (j + 1)).flatMap (slotsP d))) ∧ Hid (PrP sl d (11 - deep) L tk ES (j + 1))) ∧ (b = false → Hid (¬ FN)) ∧ Hid (Turned p w1 w') := fun X hX => by
        refine (HI.out w0 _ t (deep + 1) (L - 1 - sumP (cntT d) ES j) p (tk ++ (ES.take j).flatMap (slotsP d)) X hre (HWE.out.2 t (List.mem_of_getElem? ht)) (Nat.le_trans (szRow_mem ht) HZE.out) (hb1.trans (hX.mono hb1.size)) hp (hPr.out.kept (hX.block _ hpr)) hR.out.2.2 (by omega) (by omega) (by omega) (by omega)).mono ?_
        rintro e w' ⟨b, rfl, q1, q2, q3⟩
        refine ⟨b, rfl, fun hb => ⟨?_, ?_⟩, fun hb => ?_, hTr.out.trans ((Turned.of_below hX).trans q3)⟩
        · have := q2 hb
          rw [List.append_assoc, ← flat_next _ ht, show L - 1 - (sumP (cntT d) ES j : Int) - (cntT d t : Int) = L - 1 - (sumP (cntT d) ES (j + 1) : Int) from by omega] at this
          exact this
        · refine PrP.step ht hR.out ?_
          have := q1.1 hb
          rw [show 11 - (deep + 1) = 11 - deep - 1 from by omega] at this
          exact this
        · intro hRR
          have := HPB.out j t ht hRR
          rw [show 11 - deep - 1 = 11 - (deep + 1) from by omega] at this
          rw [q1.2 this] at hb
          cases hb
      have hjl' : (j : Int) < (len : Int) := by omega
      clear hcl hre hvl ht hR hPr hTr hTw hstep hle
      go_wp2_with fail
      refine (hC _ ((Below.refl _ _).alloc (Nat.le_refl _) _)).mono ?_
      clear hC
      rintro e w' ⟨b, rfl, q1, q2, q3⟩
      cases b
      · have HN := q2 rfl
        have hT2 : Turned p w w' := HT1.out.trans q3.out
        clear q1 q2
        go_wp2_with fail
        go_ret
        exact tk_no HN.out hT2
      · obtain ⟨q4, q5⟩ := q1 rfl
        clear q1 q2
        go_wp2_with fail
        go_roundw
        case rel => exact ⟨j + 1, by omega, by go_num, q3, q4, q5⟩
        case measure => simp [intOf]; omega
    · obtain rfl : j = len := by omega
      have HR : Hid FN := HFA.out hR.out
      have HY : Hid (FgA wr p sl (L - CN) (tk ++ SN)) := by
        have h8 := hPr.out
        rw [← HL.out, sumP_end, List.take_length] at h8
        show FgA _ _ _ _ _
        rw [HSL.out, HOS.out, List.nil_append, show L - (CN : Int) = L - 1 - ((ES.map (cntT d)).sum : Int) from by have := HCN.out; omega]
        exact h8
      have hjl' : decide ((j : Int) < (j : Int)) = false := by simp
      clear hPr hTr hR
      go_wp2_with fail
      go_ret
      exact tk_yes HR.out HY.out hTw

theorem fits_any (sl : Int) (hsl : 0 ≤ sl) (hsl2 : sl ≤ 400) : ∀ d, PtC sl d := by
  intro d
  induction d with
  | zero => intro w0 vs e deep L p tk w h; exact h.elim
  | succ d ih => exact fits_of sl hsl hsl2 d ih

end Go.Proofs.YtfachfimdenapaaDoor

/- Whether a pattern fits: the program's. -/
namespace Go.Proofs.YtfachfimdenapaaDoor
open Go.RowKit
set_option linter.unusedVariables false

def fgZero : Array Value := #[.int .i64 0, .int .i64 0] ++ Array.replicate 400 (.bool false)
theorem Tryd.zeroFitting (V : World) : (zeroValue 112).run Tryd.prog V = .ok (.agg fgZero) V := (zero_of_info (P := Tryd.prog) (n := 402) (by kernel_rfl)).1 V
theorem fgZero_size : fgZero.size = 402 := by unfold fgZero; simp
def fgSet (Z : Array Value) (sl : Int) : Array Value := (Z.setIfInBounds 0 (.int .i64 sl)).setIfInBounds 1 (.int .i64 300)
theorem fgSet_at (sl : Int) : (fgSet fgZero sl)[0]? = some (.int .i64 sl) ∧ (fgSet fgZero sl)[1]? = some (.int .i64 300) ∧ ∀ i : Nat, i < 400 → (fgSet fgZero sl)[2 + i]? = some (.bool (decide ((i : Int) ∈ ([] : List Int)))) := by
  have hz := fgZero_size
  unfold fgSet
  refine ⟨?_, ?_, fun i hi => ?_⟩
  · rw [Array.getElem?_setIfInBounds_ne (by omega), Array.getElem?_setIfInBounds_self_of_lt (by omega)]
  · rw [Array.getElem?_setIfInBounds_self_of_lt (by simp; omega)]
  · rw [Array.getElem?_setIfInBounds_ne (by omega), Array.getElem?_setIfInBounds_ne (by omega)]
    unfold fgZero
    rw [Array.getElem?_append_right (by simp)]
    simp [hi]

set_option maxRecDepth 100000 in
set_option maxHeartbeats 4000000 in
theorem implPatFits_any (d : Nat) (vs : List Value) (x : Tm d) (sl : Int) (w : World) (hr : PatR d w vs x) (hw : WfPat d x) (hz : szPatD d x ≤ 1048576) (hi : I64 sl) :
    Calls Tryd.prog 58 #[.agg vs.toArray, .int .i64 sl] w fun e w' => BRes (pPatFits d x sl) w e w' := by
  cases d with
  | zero => exact hr.elim
  | succ d =>
  obtain ⟨k, n, s, a, l, c, rfl⟩ := PatR.shape _ _ _ _ hr
  obtain ⟨W, hW⟩ : ∃ W, W = w.alloc (.cells #[.int .i64 k, .int .i64 n, .string s, .slice a l c] 51) := ⟨_, rfl⟩
  have hA : Below w.heap.size w W := by rw [hW]; exact (Below.refl _ _).alloc (Nat.le_refl _) _
  by_cases h1 : sl < 0
  · have HF : Hid (¬ pPatFits (d + 1) x sl) := fun h => by have := h.1; omega
    rw [hW] at hA
    clear hr hw hz hW
    go_enter Tryd.func58, Tryd.ntmps58
    go_wp2_with fail
    go_ret
    exact bres_no HF.out hA
  by_cases h2 : 400 < sl
  · have HF : Hid (¬ pPatFits (d + 1) x sl) := fun h => by have := h.1; omega
    rw [hW] at hA
    clear hr hw hz hW
    go_enter Tryd.func58, Tryd.ntmps58
    go_wp2_with fail
    go_ret
    exact bres_no HF.out hA
  obtain ⟨Z, hZ⟩ : ∃ Z, fgZero = Z := ⟨_, rfl⟩
  have hbd : ∀ V : World, (zeroValue 112).run Tryd.prog V = .ok (.agg Z) V := fun V => by rw [← hZ]; exact Tryd.zeroFitting V
  have HZS : Z.size = 402 := by rw [← hZ]; exact fgZero_size
  have hZ1 : ¬ Z = #[] := fun e => by rw [e] at HZS; simp at HZS
  have hZ2 : ¬ Z.size < 2 := by omega
  obtain ⟨V, hV⟩ : ∃ V, V = W.alloc (.cells ((Z.setIfInBounds 0 (.int .i64 sl)).setIfInBounds 1 (.int .i64 300)) 112) := ⟨_, rfl⟩
  have hWz : W.heap.size = w.heap.size + 1 := by rw [hW]; simp
  have hB : Below W.heap.size W V := by rw [hV]; exact (Below.refl _ _).alloc (Nat.le_refl _) _
  have hG : FgA V (w.heap.size + 1) sl 300 [] := by
    refine ⟨_, by rw [hV, ← hWz]; exact heap_alloc_new _ _, by simpa using HZS, ?_⟩
    rw [← hZ]; exact fgSet_at sl
  have hbx : V.heap[w.heap.size]? = some (.cells #[.int .i64 k, .int .i64 n, .string s, .slice a l c] 51 (0, 0)) := (hB.block _ (by omega)).trans (by rw [hW]; exact heap_alloc_new w _)
  have hC := fits_any sl (by omega) (by omega) (d + 1) w _ x 1 300 (w.heap.size + 1) [] V hr hw hz (hA.trans (hB.mono hA.size)) (by omega) hG List.nodup_nil (by omega) (by omega) (by omega) (by omega)
  clear HZS
  have HBV : Hid (Below w.heap.size w V) := hA.trans (hB.mono hA.size)
  have d0 : V.cell? ⟨w.heap.size, 0, none⟩ = some (.int .i64 k) := by rw [cell_of_row V _ 0 _ _ _ hbx]; rfl
  have d1 : V.cell? ⟨w.heap.size, 1, none⟩ = some (.int .i64 n) := by rw [cell_of_row V _ 1 _ _ _ hbx]; rfl
  have d2 : V.cell? ⟨w.heap.size, 2, none⟩ = some (.string s) := by rw [cell_of_row V _ 2 _ _ _ hbx]; rfl
  have d3 : V.cell? ⟨w.heap.size, 3, none⟩ = some (.slice a l c) := by rw [cell_of_row V _ 3 _ _ _ hbx]; rfl
  rw [hV, hW] at hC d0 d1 d2 d3
  have HV : Hid (V = (w.alloc (.cells #[.int .i64 k, .int .i64 n, .string s, .slice a l c] 51)).alloc (.cells ((Z.setIfInBounds 0 (.int .i64 sl)).setIfInBounds 1 (.int .i64 300)) 112)) := by rw [hV, hW]; rfl
  have HI : Hid (FitsP sl (d + 1) 10 300 [] x ↔ pPatFits (d + 1) x sl) := ⟨fun h => ⟨by omega, (fits_pat sl d x).1 h⟩, fun h => (fits_pat sl d x).2 h.2⟩
  clear hr hw hz hW hV hA hB hG hbx hZ hWz
  go_enter Tryd.func58, Tryd.ntmps58
  go_wp2_with fail
  refine hC.mono ?_
  clear hC
  rintro e w1 ⟨b, rfl, hb, _, hT⟩
  rw [← HV.out] at hT
  have HB : Hid (Below w.heap.size w w1) := HBV.out.trans (hT.below (by omega) HBV.out.size)
  have HBI : Hid (b = true ↔ pPatFits (d + 1) x sl) := hb.trans HI.out
  clear hb hT d0 d1 d2 d3 hbd
  go_wp2_with fail
  go_ret
  exact ⟨b, rfl, HBI.out, HB.out⟩

end Go.Proofs.YtfachfimdenapaaDoor
