/- The program's Lex: the tokens of a text, in new memory. -/
import Derived.Test.YtickaplokjdijaaDoorLx7
import Derived.Lib.OthersKept
namespace Go.Proofs.YtickaplokjdijaaDoor
open Go.RowKit
set_option linter.unusedVariables false

theorem run_shift {p : Int → Bool} {s : ByteArray} {i m : Nat} (hi : i ≤ s.size) : RunTo p (s.extract i s.size) 0 m ↔ RunTo p s i (i + m) := by
  have hsz := ex_size s i s.size (Nat.le_refl _)
  unfold RunTo
  constructor
  · rintro ⟨h1, h2, h3, h4⟩
    refine ⟨by omega, by omega, fun j hj h5 h6 => ?_, fun h => ?_⟩
    · have := h3 (j - i) (by omega) (by omega) (by omega)
      rw [ex_at s i s.size (j - i) (by omega) (by omega)] at this
      have e : i + (j - i) = j := by omega
      simpa only [e] using this
    · have := h4 (by omega)
      rw [ex_at s i s.size m (by omega) (by omega)] at this
      exact this
  · rintro ⟨h1, h2, h3, h4⟩
    refine ⟨by omega, by omega, fun j hj h5 h6 => ?_, fun h => ?_⟩
    · rw [ex_at s i s.size j hj (by omega)]
      exact h3 (i + j) (by omega) (by omega) (by omega)
    · rw [ex_at s i s.size m h (by omega)]
      exact h4 (by omega)

theorem ex_ex (s : ByteArray) (i m : Nat) (h : i + m ≤ s.size) : (s.extract i s.size).extract 0 m = s.extract i (i + m) := by
  rw [Lib.extract_eq, Lib.extract_eq s i (i + m), Lib.extract_data, List.drop_zero, Nat.sub_zero, Nat.add_sub_cancel_left, List.take_take]
  congr 3
  omega

theorem one_shift {s : ByteArray} {i m : Nat} {t : Tok} (hi : i < s.size) : OneAt (s.extract i s.size) 0 t m ↔ OneAt s i t (i + m) := by
  have hsz := ex_size s i s.size (Nat.le_refl _)
  have h0 : 0 < (s.extract i s.size).size := by omega
  have e0 : (s.extract i s.size)[0] = s[i] := ex_at s i s.size 0 h0 hi
  have hd : (s.extract i s.size).data.toList.drop 0 = s.data.toList.drop i := by rw [List.drop_zero, Lib.extract_data, List.take_of_length_le (by rw [List.length_drop, ← Lib.size_eq]; omega)]
  have hex : ∀ m', i + m' ≤ s.size → (s.extract i s.size).extract 0 m' = s.extract i (i + m') := fun m' h => ex_ex s i m' h
  constructor
  · rintro ⟨_, h | h | h | h⟩
    · rw [e0, run_shift (by omega)] at h
      obtain ⟨g1, g2, g3, g4, g5⟩ := h
      rw [hex m g2.2.1] at g4 g5
      exact ⟨hi, .inl ⟨g1, g2, by rw [Nat.add_sub_cancel_left]; simpa using g3, g4, g5⟩⟩
    · rw [e0, run_shift (by omega)] at h
      obtain ⟨g1, g2, g3, g5⟩ := h
      rw [hex m g2.2.1] at g5
      exact ⟨hi, .inr (.inl ⟨g1, g2, by omega, g5⟩)⟩
    · rw [e0, run_shift (by omega)] at h
      obtain ⟨g1, g2, g3, g5⟩ := h
      rw [hex m g2.2.1] at g5
      exact ⟨hi, .inr (.inr (.inl ⟨g1, g2, by omega, g5⟩))⟩
    · rw [e0, hd] at h
      obtain ⟨g1, g2, g3, g4, g5, g6⟩ := h
      have hle := mkn_le _ (drop_ne hi)
      rw [List.length_drop, ← Lib.size_eq] at hle
      rw [hex m (by omega)] at g6
      exact ⟨hi, .inr (.inr (.inr ⟨g1, g2, g3, g4, by omega, g6⟩))⟩
  · rintro ⟨_, h | h | h | h⟩
    · obtain ⟨g1, g2, g3, g4, g5⟩ := h
      rw [← hex m g2.2.1] at g4 g5
      refine ⟨h0, .inl ⟨by rw [e0]; exact g1, (run_shift (by omega)).2 g2, ?_, g4, g5⟩⟩
      rw [e0]; rw [Nat.add_sub_cancel_left] at g3; simpa using g3
    · obtain ⟨g1, g2, g3, g5⟩ := h
      rw [← hex m g2.2.1] at g5
      exact ⟨h0, .inr (.inl ⟨by rw [e0]; exact g1, (run_shift (by omega)).2 g2, by omega, g5⟩)⟩
    · obtain ⟨g1, g2, g3, g5⟩ := h
      rw [← hex m g2.2.1] at g5
      exact ⟨h0, .inr (.inr (.inl ⟨by rw [e0]; exact g1, (run_shift (by omega)).2 g2, by omega, g5⟩))⟩
    · obtain ⟨g1, g2, g3, g4, g5, g6⟩ := h
      have hle := mkn_le _ (drop_ne hi)
      rw [List.length_drop, ← Lib.size_eq] at hle
      rw [← hex m (by omega)] at g6
      exact ⟨h0, .inr (.inr (.inr ⟨by rw [e0]; exact g1, by rw [e0]; exact g2, by rw [e0]; exact g3, by rw [hd]; exact g4, by rw [hd]; omega, g6⟩))⟩

theorem oneR_shift {s : ByteArray} {i m : Nat} {k n : Int} {S : ByteArray} (hi : i < s.size) (h : OneR (s.extract i s.size) 0 k n S m) : OneR s i k n S (i + m) := by
  refine ⟨fun g => (one_shift hi).1 (h.1 g), fun g => ?_⟩
  rintro ⟨t, e', he⟩
  have := he.lt.1
  obtain ⟨d, rfl⟩ : ∃ d, e' = i + d := ⟨e' - i, by omega⟩
  exact h.2 g ⟨t, d, (one_shift hi).2 he⟩

/-- A token is ASCII. -/
theorem OneAt.ascii {s : ByteArray} {i e : Nat} {t : Tok} (h : OneAt s i t e) : ∀ (j : Nat) (hj : j < s.size), i ≤ j → j < e → s[j].toNat < 128 := by
  intro j hj h1 h2
  obtain ⟨hi, h | h | h | h⟩ := h
  · have := h.2.1.2.2.1 j hj h1 h2
    simp [dgB] at this
    omega
  · have := (atB_iff _).1 (h.2.1.2.2.1 j hj h1 h2)
    omega
  · have := (nmB_iff _).1 (h.2.1.2.2.1 j hj h1 h2)
    simp [lgB, smB, dgB] at this
    omega
  · obtain ⟨_, _, _, h4, h5, _⟩ := h
    have hat : ∀ q (hq : i + q < s.size), (s.data.toList.drop i)[q]? = some s[i + q] := fun q hq => by
      rw [List.getElem?_drop, List.getElem?_eq_getElem (by rw [← Lib.size_eq]; exact hq)]; rfl
    unfold mkn at h4 h5
    generalize s.data.toList.drop i = l at h4 h5 hat
    split at h5
    · rename_i hc
      rw [pre2, pre2] at hc
      obtain ⟨d, rfl⟩ : ∃ d, j = i + d := ⟨j - i, by omega⟩
      have h9 := hat d hj
      rcases (by omega : d = 0 ∨ d = 1) with rfl | rfl
      all_goals
        rcases hc with ⟨r, rfl⟩ | ⟨r, rfl⟩ <;> (have e9 := Option.some.inj h9; rw [← e9]; decide)
    · split at h5
      · rename_i hc
        obtain ⟨d, rfl⟩ : ∃ d, j = i + d := ⟨j - i, by omega⟩
        have h9 := hat d hj
        obtain rfl : d = 0 := by omega
        cases l with
        | nil => simp at h9
        | cons c r =>
          have e9 : c = s[i + 0] := by simpa using h9
          have hm : c ∈ ones := by simpa using hc
          have : ∀ d ∈ ones, d.toNat < 128 := by decide
          rw [← e9]
          exact this c hm
      · rename_i hc1 hc2
        rw [if_neg hc1, if_neg hc2] at h4
        omega

end Go.Proofs.YtickaplokjdijaaDoor
