/- The model's test of an expression's own fields, whole. -/
import Derived.Test.YtgeedoeaepcmcaaGreatDoorFx3M
namespace Go.Proofs.YtgeedoeaepcmcaaGreatDoor
open Go.RowKit
set_option linter.unusedVariables false

set_option maxHeartbeats 2000000 in
theorem specFit_false_no (k n : Int) (s : ByteArray) (a3 : Option Addr) (e c3 : Nat) (a4 : Option Addr) (c c4 : Nat) (w : World) (hk : ¬ (1 ≤ k ∧ k ≤ 9)) (he : e ≤ 9223372036854775807) (hc : c ≤ 9223372036854775807) :
    Calls Tryz.prog 67 #[.agg #[.int .i64 k, .int .i64 n, .string s, .slice a3 e c3, .slice a4 c c4], .bool false] w fun r w' => ∃ b : Bool, r = .returned (.bool b) ∧ Hid (b = true ↔ ShX false k n s e c) ∧ Below w.heap.size w w' := by
  have hA : Below w.heap.size w (w.alloc (.cells #[.int .i64 k, .int .i64 n, .string s, .slice a3 e c3, .slice a4 c c4] 39)) := (Below.refl _ _).alloc (Nat.le_refl _) _
  have HN : Hid (¬ ShX false k n s e c) := fun h => fit_no k n s e c hk h.1
  have k1 : ¬ k = 1 := by omega
  have j1 : (k == 1) = false := by simp; omega
  have k2 : ¬ k = 2 := by omega
  have j2 : (k == 2) = false := by simp; omega
  have k3 : ¬ k = 3 := by omega
  have j3 : (k == 3) = false := by simp; omega
  have k4 : ¬ k = 4 := by omega
  have j4 : (k == 4) = false := by simp; omega
  have k5 : ¬ k = 5 := by omega
  have j5 : (k == 5) = false := by simp; omega
  have k6 : ¬ k = 6 := by omega
  have j6 : (k == 6) = false := by simp; omega
  have k7 : ¬ k = 7 := by omega
  have j7 : (k == 7) = false := by simp; omega
  have k8 : ¬ k = 8 := by omega
  have j8 : (k == 8) = false := by simp; omega
  have k9 : ¬ k = 9 := by omega
  have j9 : (k == 9) = false := by simp; omega
  have m9 : (k != 9) = true := by simp; omega
  have m1 : (k != 1) = true := by simp; omega
  clear hk
  by_cases hn : n = 0
  · subst hn
    by_cases hc0 : c = 0
    · subst hc0
      go_enter Tryz.func67, Tryz.ntmps67
      go_wp2_with fail
      go_ret
      first | exact ⟨false, rfl, iff_no HN.out, hA⟩ | exact .inl ⟨rfl, iff_no HN.out, hA⟩ | exact .inl ⟨rfl, hA⟩
    · have hc1 : (0 : Int) < (c : Int) := by omega
      have hc2 : 0 < c := by omega
      go_enter Tryz.func67, Tryz.ntmps67
      go_wp2_with fail
      go_ret
      first | exact ⟨false, rfl, iff_no HN.out, hA⟩ | exact .inl ⟨rfl, iff_no HN.out, hA⟩ | exact .inl ⟨rfl, hA⟩
  · have hn1 : (n == 0) = false := by simpa using hn
    by_cases hc0 : c = 0
    · subst hc0
      go_enter Tryz.func67, Tryz.ntmps67
      go_wp2_with fail
      go_ret
      first | exact ⟨false, rfl, iff_no HN.out, hA⟩ | exact .inl ⟨rfl, iff_no HN.out, hA⟩ | exact .inl ⟨rfl, hA⟩
    · have hc1 : (0 : Int) < (c : Int) := by omega
      have hc2 : 0 < c := by omega
      go_enter Tryz.func67, Tryz.ntmps67
      go_wp2_with fail
      go_ret
      first | exact ⟨false, rfl, iff_no HN.out, hA⟩ | exact .inl ⟨rfl, iff_no HN.out, hA⟩ | exact .inl ⟨rfl, hA⟩

set_option maxHeartbeats 2000000 in
theorem specFit_true_no (k n : Int) (s : ByteArray) (a3 : Option Addr) (e c3 : Nat) (a4 : Option Addr) (c c4 : Nat) (w : World) (hk : ¬ (1 ≤ k ∧ k ≤ 9)) (he : e ≤ 9223372036854775807) (hc : c ≤ 9223372036854775807) :
    Calls Tryz.prog 67 #[.agg #[.int .i64 k, .int .i64 n, .string s, .slice a3 e c3, .slice a4 c c4], .bool true] w fun r w' => ∃ b : Bool, r = .returned (.bool b) ∧ Hid (b = true ↔ ShX true k n s e c) ∧ Below w.heap.size w w' := by
  have hA : Below w.heap.size w (w.alloc (.cells #[.int .i64 k, .int .i64 n, .string s, .slice a3 e c3, .slice a4 c c4] 39)) := (Below.refl _ _).alloc (Nat.le_refl _) _
  have HN : Hid (¬ ShX true k n s e c) := fun h => fit_no k n s e c hk h.1
  have k1 : ¬ k = 1 := by omega
  have j1 : (k == 1) = false := by simp; omega
  have k2 : ¬ k = 2 := by omega
  have j2 : (k == 2) = false := by simp; omega
  have k3 : ¬ k = 3 := by omega
  have j3 : (k == 3) = false := by simp; omega
  have k4 : ¬ k = 4 := by omega
  have j4 : (k == 4) = false := by simp; omega
  have k5 : ¬ k = 5 := by omega
  have j5 : (k == 5) = false := by simp; omega
  have k6 : ¬ k = 6 := by omega
  have j6 : (k == 6) = false := by simp; omega
  have k7 : ¬ k = 7 := by omega
  have j7 : (k == 7) = false := by simp; omega
  have k8 : ¬ k = 8 := by omega
  have j8 : (k == 8) = false := by simp; omega
  have k9 : ¬ k = 9 := by omega
  have j9 : (k == 9) = false := by simp; omega
  have m9 : (k != 9) = true := by simp; omega
  have m1 : (k != 1) = true := by simp; omega
  clear hk
  by_cases hn : n = 0
  · subst hn
    by_cases hc0 : c = 0
    · subst hc0
      go_enter Tryz.func67, Tryz.ntmps67
      go_wp2_with fail
      go_ret
      first | exact ⟨false, rfl, iff_no HN.out, hA⟩ | exact .inl ⟨rfl, iff_no HN.out, hA⟩ | exact .inl ⟨rfl, hA⟩
    · have hc1 : (0 : Int) < (c : Int) := by omega
      have hc2 : 0 < c := by omega
      go_enter Tryz.func67, Tryz.ntmps67
      go_wp2_with fail
      go_ret
      first | exact ⟨false, rfl, iff_no HN.out, hA⟩ | exact .inl ⟨rfl, iff_no HN.out, hA⟩ | exact .inl ⟨rfl, hA⟩
  · have hn1 : (n == 0) = false := by simpa using hn
    by_cases hc0 : c = 0
    · subst hc0
      go_enter Tryz.func67, Tryz.ntmps67
      go_wp2_with fail
      go_ret
      first | exact ⟨false, rfl, iff_no HN.out, hA⟩ | exact .inl ⟨rfl, iff_no HN.out, hA⟩ | exact .inl ⟨rfl, hA⟩
    · have hc1 : (0 : Int) < (c : Int) := by omega
      have hc2 : 0 < c := by omega
      go_enter Tryz.func67, Tryz.ntmps67
      go_wp2_with fail
      go_ret
      first | exact ⟨false, rfl, iff_no HN.out, hA⟩ | exact .inl ⟨rfl, iff_no HN.out, hA⟩ | exact .inl ⟨rfl, hA⟩

theorem specFit_any (pat : Bool) (k n : Int) (s : ByteArray) (a3 : Option Addr) (e c3 : Nat) (a4 : Option Addr) (c c4 : Nat) (w : World) (hs : s.size ≤ 9223372036854775807) (he : e ≤ 9223372036854775807) (hc : c ≤ 9223372036854775807) :
    Calls Tryz.prog 67 #[.agg #[.int .i64 k, .int .i64 n, .string s, .slice a3 e c3, .slice a4 c c4], .bool pat] w fun r w' => ∃ b : Bool, r = .returned (.bool b) ∧ Hid (b = true ↔ ShX pat k n s e c) ∧ Below w.heap.size w w' := by
  by_cases hk : 1 ≤ k ∧ k ≤ 9
  · cases pat
    · rcases (by omega : k = 1 ∨ k = 2 ∨ k = 3 ∨ k = 4 ∨ k = 5 ∨ k = 6 ∨ k = 7 ∨ k = 8 ∨ k = 9) with rfl | rfl | rfl | rfl | rfl | rfl | rfl | rfl | rfl
      · exact specFit_false_1 n s a3 e c3 a4 c c4 w hs he hc
      · exact specFit_false_2 n s a3 e c3 a4 c c4 w hs he hc
      · exact specFit_false_3 n s a3 e c3 a4 c c4 w hs he hc
      · exact specFit_false_4 n s a3 e c3 a4 c c4 w hs he hc
      · exact specFit_false_5 n s a3 e c3 a4 c c4 w hs he hc
      · exact specFit_false_6 n s a3 e c3 a4 c c4 w hs he hc
      · exact specFit_false_7 n s a3 e c3 a4 c c4 w hs he hc
      · exact specFit_false_8 n s a3 e c3 a4 c c4 w hs he hc
      · exact specFit_false_9 n s a3 e c3 a4 c c4 w hs he hc
    · rcases (by omega : k = 1 ∨ k = 2 ∨ k = 3 ∨ k = 4 ∨ k = 5 ∨ k = 6 ∨ k = 7 ∨ k = 8 ∨ k = 9) with rfl | rfl | rfl | rfl | rfl | rfl | rfl | rfl | rfl
      · exact specFit_true_1 n s a3 e c3 a4 c c4 w hs he hc
      · exact specFit_true_2 n s a3 e c3 a4 c c4 w hs he hc
      · exact specFit_true_3 n s a3 e c3 a4 c c4 w hs he hc
      · exact specFit_true_4 n s a3 e c3 a4 c c4 w hs he hc
      · exact specFit_true_5 n s a3 e c3 a4 c c4 w hs he hc
      · exact specFit_true_6 n s a3 e c3 a4 c c4 w hs he hc
      · exact specFit_true_7 n s a3 e c3 a4 c c4 w hs he hc
      · exact specFit_true_8 n s a3 e c3 a4 c c4 w hs he hc
      · exact specFit_true_9 n s a3 e c3 a4 c c4 w hs he hc
  · cases pat
    · exact specFit_false_no k n s a3 e c3 a4 c c4 w hk he hc
    · exact specFit_true_no k n s a3 e c3 a4 c c4 w hk he hc

end Go.Proofs.YtgeedoeaepcmcaaGreatDoor
