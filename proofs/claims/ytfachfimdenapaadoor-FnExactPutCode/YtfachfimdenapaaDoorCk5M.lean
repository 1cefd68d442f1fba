/- The fields of an instruction: the program's. -/
import Derived.Test.YtfachfimdenapaaDoorCk1M
import Derived.Test.YtfachfimdenapaaDoorPf1M
import Derived.Test.YtfachfimdenapaaDoorTmM
import Derived.Deep.QuietTactic
import Derived.Test.YtfachfimdenapaaDoorRows
import Derived.Lib.LaidU8
namespace Go.Proofs.YtfachfimdenapaaDoor
open Go.RowKit
set_option linter.unusedVariables false

/-- What lies in the table of shapes. -/
def shL : List Value := [.string ⟨#[]⟩, .bool false, .bool false, .bool false, .string ⟨#[105, 110, 116]⟩, .bool false, .bool true, .bool false, .string ⟨#[97, 116, 111, 109]⟩, .bool true, .bool false, .bool false, .string ⟨#[108, 111, 97, 100]⟩, .bool false, .bool true, .bool false, .string ⟨#[116, 117, 112, 108, 101]⟩, .bool false, .bool true, .bool false, .string ⟨#[108, 105, 115, 116]⟩, .bool false, .bool true, .bool false, .string ⟨#[99, 111, 110, 115]⟩, .bool false, .bool true, .bool false, .string ⟨#[111, 112]⟩, .bool true, .bool false, .bool false, .string ⟨#[99, 97, 108, 108]⟩, .bool true, .bool true, .bool false, .string ⟨#[109, 97, 116, 99, 104]⟩, .bool false, .bool true, .bool true, .string ⟨#[106, 117, 109, 112]⟩, .bool false, .bool false, .bool true, .string ⟨#[102, 97, 105, 108]⟩, .bool false, .bool false, .bool false, .string ⟨#[114, 101, 116]⟩, .bool false, .bool false, .bool false]
def ShOk (w : World) : Prop := ∀ (i : Nat) (v : Value), shL[i]? = some v → w.cell? ⟨0, i, none⟩ = some v
theorem ShOk.later {w w' : World} (h : ShOk w) (hb : Below w.heap.size w w') : ShOk w' := fun i v hv => cell_later hb (h i v hv)

/-- No field is set that the code does not name. -/
def ShD (op n : Int) (s : ByteArray) (tq : Int) : Prop :=
  (op = 1 ∧ s.size = 0 ∧ tq = 0) ∨ (op = 2 ∧ n = 0 ∧ tq = 0) ∨ (op = 3 ∧ s.size = 0 ∧ tq = 0) ∨ (op = 4 ∧ s.size = 0 ∧ tq = 0) ∨ (op = 5 ∧ s.size = 0 ∧ tq = 0) ∨ (op = 6 ∧ s.size = 0 ∧ tq = 0) ∨ (op = 7 ∧ n = 0 ∧ tq = 0) ∨ (op = 8 ∧ tq = 0) ∨ (op = 9 ∧ s.size = 0) ∨ (op = 10 ∧ s.size = 0 ∧ n = 0) ∨ (op = 11 ∧ s.size = 0 ∧ n = 0 ∧ tq = 0) ∨ (op = 12 ∧ s.size = 0 ∧ n = 0 ∧ tq = 0)
theorem shD1 (n : Int) (s : ByteArray) (tq : Int) : ShD 1 n s tq ↔ s.size = 0 ∧ tq = 0 := by simp [ShD]
theorem shD2 (n : Int) (s : ByteArray) (tq : Int) : ShD 2 n s tq ↔ n = 0 ∧ tq = 0 := by simp [ShD]
theorem shD3 (n : Int) (s : ByteArray) (tq : Int) : ShD 3 n s tq ↔ s.size = 0 ∧ tq = 0 := by simp [ShD]
theorem shD4 (n : Int) (s : ByteArray) (tq : Int) : ShD 4 n s tq ↔ s.size = 0 ∧ tq = 0 := by simp [ShD]
theorem shD5 (n : Int) (s : ByteArray) (tq : Int) : ShD 5 n s tq ↔ s.size = 0 ∧ tq = 0 := by simp [ShD]
theorem shD6 (n : Int) (s : ByteArray) (tq : Int) : ShD 6 n s tq ↔ s.size = 0 ∧ tq = 0 := by simp [ShD]
theorem shD7 (n : Int) (s : ByteArray) (tq : Int) : ShD 7 n s tq ↔ n = 0 ∧ tq = 0 := by simp [ShD]
theorem shD8 (n : Int) (s : ByteArray) (tq : Int) : ShD 8 n s tq ↔ tq = 0 := by simp [ShD]
theorem shD9 (n : Int) (s : ByteArray) (tq : Int) : ShD 9 n s tq ↔ s.size = 0 := by simp [ShD]
theorem shD10 (n : Int) (s : ByteArray) (tq : Int) : ShD 10 n s tq ↔ s.size = 0 ∧ n = 0 := by simp [ShD]
theorem shD11 (n : Int) (s : ByteArray) (tq : Int) : ShD 11 n s tq ↔ s.size = 0 ∧ n = 0 ∧ tq = 0 := by simp [ShD]
theorem shD12 (n : Int) (s : ByteArray) (tq : Int) : ShD 12 n s tq ↔ s.size = 0 ∧ n = 0 ∧ tq = 0 := by simp [ShD]

theorem ins_shape {d : Nat} {c : DCode d} {sl op n : Int} {s : ByteArray} {tq : Int} (h : InsP c sl op n s tq) : ShD op n s tq := by
  obtain ⟨h1, h2⟩ := h.op
  rcases ins_ops h1 h2 with rfl | rfl | rfl | rfl | rfl | rfl | rfl | rfl | rfl | rfl | rfl | rfl
  · rw [insP1] at h; rw [shD1]; simp_all
  · rw [insP2] at h; rw [shD2]; simp_all
  · rw [insP3] at h; rw [shD3]; simp_all
  · rw [insP4] at h; rw [shD4]; simp_all
  · rw [insP5] at h; rw [shD5]; simp_all
  · rw [insP6] at h; rw [shD6]; simp_all
  · rw [insP7] at h; rw [shD7]; simp_all
  · rw [insP8] at h; rw [shD8]; simp_all
  · rw [insP9] at h; rw [shD9]; simp_all
  · rw [insP10] at h; rw [shD10]; simp_all
  · rw [insP11] at h; rw [shD11]; simp_all
  · rw [insP12] at h; rw [shD12]; simp_all

set_option maxRecDepth 100000 in
set_option maxHeartbeats 4000000 in
theorem shaped_any (op n : Int) (s : ByteArray) (tq : Int) (w : World) (ht : ShOk w) (hs : s.size ≤ 9223372036854775807) (h1 : 1 ≤ op) (h2 : op ≤ 12) :
    Calls Tryd.prog 76 #[.agg #[.int .i64 op, .int .i64 n, .string s, .int .i64 tq]] w fun e w' => BRes (ShD op n s tq) w e w' := by
  have hsz : 0 < w.heap.size := World.block_lt_of_cell? w _ (ht 0 _ rfl)
  rcases ins_ops h1 h2 with rfl | rfl | rfl | rfl | rfl | rfl | rfl | rfl | rfl | rfl | rfl | rfl
  · rw [shD1]
    clear h1 h2
    have g0 : w.cell? ⟨0, 4, none⟩ = some (.string ⟨#[105, 110, 116]⟩) := ht 4 _ rfl
    have g1 : w.cell? ⟨0, 5, none⟩ = some (.bool false) := ht 5 _ rfl
    have g2 : w.cell? ⟨0, 6, none⟩ = some (.bool true) := ht 6 _ rfl
    have g3 : w.cell? ⟨0, 7, none⟩ = some (.bool false) := ht 7 _ rfl
    have hA : Below w.heap.size w ((w.alloc (.cells #[.int .i64 1, .int .i64 n, .string s, .int .i64 tq] 48)).alloc (.cells #[.string ⟨#[105, 110, 116]⟩, .bool false, .bool true, .bool false] 120)) := ((Below.refl _ _).alloc (Nat.le_refl _) _).alloc (by simp) _
    clear ht
    obtain ⟨PP, hPP⟩ : ∃ P : Prop, (s.size = 0 ∧ tq = 0) = P := ⟨_, rfl⟩
    have HPP : Hid ((s.size = 0 ∧ tq = 0) = PP) := hPP
    rw [hPP]
    clear hPP
    by_cases hc0 : s.size = 0
    · have HP0 : Hid (s.size = 0) := hc0
      have he : s.toList.isEmpty = true := (empty_iff s).2 hc0
      clear hc0
      by_cases hc1 : tq = 0
      · have HP1 : Hid (tq = 0) := hc1
        have ht0 : (tq == 0) = true := by simp [hc1]
        clear hc1
        have HF : Hid PP := by rw [← HPP.out]; exact ⟨(HP0.out), (HP1.out)⟩
        go_enter Tryd.func76, Tryd.ntmps76
        go_wp2_with fail
        go_ret
        exact bres_yes HF.out hA
      · have HF : Hid (¬ PP) := by rw [← HPP.out]; exact fun h => hc1 h.2
        have ht0 : (tq == 0) = false := by simp [hc1]
        clear hc1
        go_enter Tryd.func76, Tryd.ntmps76
        go_wp2_with fail
        go_ret
        exact bres_no HF.out hA
    · have HF : Hid (¬ PP) := by rw [← HPP.out]; exact fun h => hc0 h.1
      have he : s.toList.isEmpty = false := empty_no hc0
      clear hc0
      go_enter Tryd.func76, Tryd.ntmps76
      go_wp2_with fail
      go_ret
      exact bres_no HF.out hA
  · rw [shD2]
    clear h1 h2
    have g0 : w.cell? ⟨0, 8, none⟩ = some (.string ⟨#[97, 116, 111, 109]⟩) := ht 8 _ rfl
    have g1 : w.cell? ⟨0, 9, none⟩ = some (.bool true) := ht 9 _ rfl
    have g2 : w.cell? ⟨0, 10, none⟩ = some (.bool false) := ht 10 _ rfl
    have g3 : w.cell? ⟨0, 11, none⟩ = some (.bool false) := ht 11 _ rfl
    have hA : Below w.heap.size w ((w.alloc (.cells #[.int .i64 2, .int .i64 n, .string s, .int .i64 tq] 48)).alloc (.cells #[.string ⟨#[97, 116, 111, 109]⟩, .bool true, .bool false, .bool false] 120)) := ((Below.refl _ _).alloc (Nat.le_refl _) _).alloc (by simp) _
    clear ht
    obtain ⟨PP, hPP⟩ : ∃ P : Prop, (n = 0 ∧ tq = 0) = P := ⟨_, rfl⟩
    have HPP : Hid ((n = 0 ∧ tq = 0) = PP) := hPP
    rw [hPP]
    clear hPP
    by_cases hc0 : n = 0
    · have HP0 : Hid (n = 0) := hc0
      have hn0 : (n == 0) = true := by simp [hc0]
      clear hc0
      by_cases hc1 : tq = 0
      · have HP1 : Hid (tq = 0) := hc1
        have ht0 : (tq == 0) = true := by simp [hc1]
        clear hc1
        have HF : Hid PP := by rw [← HPP.out]; exact ⟨(HP0.out), (HP1.out)⟩
        go_enter Tryd.func76, Tryd.ntmps76
        go_wp2_with fail
        go_ret
        exact bres_yes HF.out hA
      · have HF : Hid (¬ PP) := by rw [← HPP.out]; exact fun h => hc1 h.2
        have ht0 : (tq == 0) = false := by simp [hc1]
        clear hc1
        go_enter Tryd.func76, Tryd.ntmps76
        go_wp2_with fail
        go_ret
        exact bres_no HF.out hA
    · have HF : Hid (¬ PP) := by rw [← HPP.out]; exact fun h => hc0 h.1
      have hn0 : (n == 0) = false := by simp [hc0]
      clear hc0
      go_enter Tryd.func76, Tryd.ntmps76
      go_wp2_with fail
      go_ret
      exact bres_no HF.out hA
  · rw [shD3]
    clear h1 h2
    have g0 : w.cell? ⟨0, 12, none⟩ = some (.string ⟨#[108, 111, 97, 100]⟩) := ht 12 _ rfl
    have g1 : w.cell? ⟨0, 13, none⟩ = some (.bool false) := ht 13 _ rfl
    have g2 : w.cell? ⟨0, 14, none⟩ = some (.bool true) := ht 14 _ rfl
    have g3 : w.cell? ⟨0, 15, none⟩ = some (.bool false) := ht 15 _ rfl
    have hA : Below w.heap.size w ((w.alloc (.cells #[.int .i64 3, .int .i64 n, .string s, .int .i64 tq] 48)).alloc (.cells #[.string ⟨#[108, 111, 97, 100]⟩, .bool false, .bool true, .bool false] 120)) := ((Below.refl _ _).alloc (Nat.le_refl _) _).alloc (by simp) _
    clear ht
    obtain ⟨PP, hPP⟩ : ∃ P : Prop, (s.size = 0 ∧ tq = 0) = P := ⟨_, rfl⟩
    have HPP : Hid ((s.size = 0 ∧ tq = 0) = PP) := hPP
    rw [hPP]
    clear hPP
    by_cases hc0 : s.size = 0
    · have HP0 : Hid (s.size = 0) := hc0
      have he : s.toList.isEmpty = true := (empty_iff s).2 hc0
      clear hc0
      by_cases hc1 : tq = 0
      · have HP1 : Hid (tq = 0) := hc1
        have ht0 : (tq == 0) = true := by simp [hc1]
        clear hc1
        have HF : Hid PP := by rw [← HPP.out]; exact ⟨(HP0.out), (HP1.out)⟩
        go_enter Tryd.func76, Tryd.ntmps76
        go_wp2_with fail
        go_ret
        exact bres_yes HF.out hA
      · have HF : Hid (¬ PP) := by rw [← HPP.out]; exact fun h => hc1 h.2
        have ht0 : (tq == 0) = false := by simp [hc1]
        clear hc1
        go_enter Tryd.func76, Tryd.ntmps76
        go_wp2_with fail
        go_ret
        exact bres_no HF.out hA
    · have HF : Hid (¬ PP) := by rw [← HPP.out]; exact fun h => hc0 h.1
      have he : s.toList.isEmpty = false := empty_no hc0
      clear hc0
      go_enter Tryd.func76, Tryd.ntmps76
      go_wp2_with fail
      go_ret
      exact bres_no HF.out hA
  · rw [shD4]
    clear h1 h2
    have g0 : w.cell? ⟨0, 16, none⟩ = some (.string ⟨#[116, 117, 112, 108, 101]⟩) := ht 16 _ rfl
    have g1 : w.cell? ⟨0, 17, none⟩ = some (.bool false) := ht 17 _ rfl
    have g2 : w.cell? ⟨0, 18, none⟩ = some (.bool true) := ht 18 _ rfl
    have g3 : w.cell? ⟨0, 19, none⟩ = some (.bool false) := ht 19 _ rfl
    have hA : Below w.heap.size w ((w.alloc (.cells #[.int .i64 4, .int .i64 n, .string s, .int .i64 tq] 48)).alloc (.cells #[.string ⟨#[116, 117, 112, 108, 101]⟩, .bool false, .bool true, .bool false] 120)) := ((Below.refl _ _).alloc (Nat.le_refl _) _).alloc (by simp) _
    clear ht
    obtain ⟨PP, hPP⟩ : ∃ P : Prop, (s.size = 0 ∧ tq = 0) = P := ⟨_, rfl⟩
    have HPP : Hid ((s.size = 0 ∧ tq = 0) = PP) := hPP
    rw [hPP]
    clear hPP
    by_cases hc0 : s.size = 0
    · have HP0 : Hid (s.size = 0) := hc0
      have he : s.toList.isEmpty = true := (empty_iff s).2 hc0
      clear hc0
      by_cases hc1 : tq = 0
      · have HP1 : Hid (tq = 0) := hc1
        have ht0 : (tq == 0) = true := by simp [hc1]
        clear hc1
        have HF : Hid PP := by rw [← HPP.out]; exact ⟨(HP0.out), (HP1.out)⟩
        go_enter Tryd.func76, Tryd.ntmps76
        go_wp2_with fail
        go_ret
        exact bres_yes HF.out hA
      · have HF : Hid (¬ PP) := by rw [← HPP.out]; exact fun h => hc1 h.2
        have ht0 : (tq == 0) = false := by simp [hc1]
        clear hc1
        go_enter Tryd.func76, Tryd.ntmps76
        go_wp2_with fail
        go_ret
        exact bres_no HF.out hA
    · have HF : Hid (¬ PP) := by rw [← HPP.out]; exact fun h => hc0 h.1
      have he : s.toList.isEmpty = false := empty_no hc0
      clear hc0
      go_enter Tryd.func76, Tryd.ntmps76
      go_wp2_with fail
      go_ret
      exact bres_no HF.out hA
  · rw [shD5]
    clear h1 h2
    have g0 : w.cell? ⟨0, 20, none⟩ = some (.string ⟨#[108, 105, 115, 116]⟩) := ht 20 _ rfl
    have g1 : w.cell? ⟨0, 21, none⟩ = some (.bool false) := ht 21 _ rfl
    have g2 : w.cell? ⟨0, 22, none⟩ = some (.bool true) := ht 22 _ rfl
    have g3 : w.cell? ⟨0, 23, none⟩ = some (.bool false) := ht 23 _ rfl
    have hA : Below w.heap.size w ((w.alloc (.cells #[.int .i64 5, .int .i64 n, .string s, .int .i64 tq] 48)).alloc (.cells #[.string ⟨#[108, 105, 115, 116]⟩, .bool false, .bool true, .bool false] 120)) := ((Below.refl _ _).alloc (Nat.le_refl _) _).alloc (by simp) _
    clear ht
    obtain ⟨PP, hPP⟩ : ∃ P : Prop, (s.size = 0 ∧ tq = 0) = P := ⟨_, rfl⟩
    have HPP : Hid ((s.size = 0 ∧ tq = 0) = PP) := hPP
    rw [hPP]
    clear hPP
    by_cases hc0 : s.size = 0
    · have HP0 : Hid (s.size = 0) := hc0
      have he : s.toList.isEmpty = true := (empty_iff s).2 hc0
      clear hc0
      by_cases hc1 : tq = 0
      · have HP1 : Hid (tq = 0) := hc1
        have ht0 : (tq == 0) = true := by simp [hc1]
        clear hc1
        have HF : Hid PP := by rw [← HPP.out]; exact ⟨(HP0.out), (HP1.out)⟩
        go_enter Tryd.func76, Tryd.ntmps76
        go_wp2_with fail
        go_ret
        exact bres_yes HF.out hA
      · have HF : Hid (¬ PP) := by rw [← HPP.out]; exact fun h => hc1 h.2
        have ht0 : (tq == 0) = false := by simp [hc1]
        clear hc1
        go_enter Tryd.func76, Tryd.ntmps76
        go_wp2_with fail
        go_ret
        exact bres_no HF.out hA
    · have HF : Hid (¬ PP) := by rw [← HPP.out]; exact fun h => hc0 h.1
      have he : s.toList.isEmpty = false := empty_no hc0
      clear hc0
      go_enter Tryd.func76, Tryd.ntmps76
      go_wp2_with fail
      go_ret
      exact bres_no HF.out hA
  · rw [shD6]
    clear h1 h2
    have g0 : w.cell? ⟨0, 24, none⟩ = some (.string ⟨#[99, 111, 110, 115]⟩) := ht 24 _ rfl
    have g1 : w.cell? ⟨0, 25, none⟩ = some (.bool false) := ht 25 _ rfl
    have g2 : w.cell? ⟨0, 26, none⟩ = some (.bool true) := ht 26 _ rfl
    have g3 : w.cell? ⟨0, 27, none⟩ = some (.bool false) := ht 27 _ rfl
    have hA : Below w.heap.size w ((w.alloc (.cells #[.int .i64 6, .int .i64 n, .string s, .int .i64 tq] 48)).alloc (.cells #[.string ⟨#[99, 111, 110, 115]⟩, .bool false, .bool true, .bool false] 120)) := ((Below.refl _ _).alloc (Nat.le_refl _) _).alloc (by simp) _
    clear ht
    obtain ⟨PP, hPP⟩ : ∃ P : Prop, (s.size = 0 ∧ tq = 0) = P := ⟨_, rfl⟩
    have HPP : Hid ((s.size = 0 ∧ tq = 0) = PP) := hPP
    rw [hPP]
    clear hPP
    by_cases hc0 : s.size = 0
    · have HP0 : Hid (s.size = 0) := hc0
      have he : s.toList.isEmpty = true := (empty_iff s).2 hc0
      clear hc0
      by_cases hc1 : tq = 0
      · have HP1 : Hid (tq = 0) := hc1
        have ht0 : (tq == 0) = true := by simp [hc1]
        clear hc1
        have HF : Hid PP := by rw [← HPP.out]; exact ⟨(HP0.out), (HP1.out)⟩
        go_enter Tryd.func76, Tryd.ntmps76
        go_wp2_with fail
        go_ret
        exact bres_yes HF.out hA
      · have HF : Hid (¬ PP) := by rw [← HPP.out]; exact fun h => hc1 h.2
        have ht0 : (tq == 0) = false := by simp [hc1]
        clear hc1
        go_enter Tryd.func76, Tryd.ntmps76
        go_wp2_with fail
        go_ret
        exact bres_no HF.out hA
    · have HF : Hid (¬ PP) := by rw [← HPP.out]; exact fun h => hc0 h.1
      have he : s.toList.isEmpty = false := empty_no hc0
      clear hc0
      go_enter Tryd.func76, Tryd.ntmps76
      go_wp2_with fail
      go_ret
      exact bres_no HF.out hA
  · rw [shD7]
    clear h1 h2
    have g0 : w.cell? ⟨0, 28, none⟩ = some (.string ⟨#[111, 112]⟩) := ht 28 _ rfl
    have g1 : w.cell? ⟨0, 29, none⟩ = some (.bool true) := ht 29 _ rfl
    have g2 : w.cell? ⟨0, 30, none⟩ = some (.bool false) := ht 30 _ rfl
    have g3 : w.cell? ⟨0, 31, none⟩ = some (.bool false) := ht 31 _ rfl
    have hA : Below w.heap.size w ((w.alloc (.cells #[.int .i64 7, .int .i64 n, .string s, .int .i64 tq] 48)).alloc (.cells #[.string ⟨#[111, 112]⟩, .bool true, .bool false, .bool false] 120)) := ((Below.refl _ _).alloc (Nat.le_refl _) _).alloc (by simp) _
    clear ht
    obtain ⟨PP, hPP⟩ : ∃ P : Prop, (n = 0 ∧ tq = 0) = P := ⟨_, rfl⟩
    have HPP : Hid ((n = 0 ∧ tq = 0) = PP) := hPP
    rw [hPP]
    clear hPP
    by_cases hc0 : n = 0
    · have HP0 : Hid (n = 0) := hc0
      have hn0 : (n == 0) = true := by simp [hc0]
      clear hc0
      by_cases hc1 : tq = 0
      · have HP1 : Hid (tq = 0) := hc1
        have ht0 : (tq == 0) = true := by simp [hc1]
        clear hc1
        have HF : Hid PP := by rw [← HPP.out]; exact ⟨(HP0.out), (HP1.out)⟩
        go_enter Tryd.func76, Tryd.ntmps76
        go_wp2_with fail
        go_ret
        exact bres_yes HF.out hA
      · have HF : Hid (¬ PP) := by rw [← HPP.out]; exact fun h => hc1 h.2
        have ht0 : (tq == 0) = false := by simp [hc1]
        clear hc1
        go_enter Tryd.func76, Tryd.ntmps76
        go_wp2_with fail
        go_ret
        exact bres_no HF.out hA
    · have HF : Hid (¬ PP) := by rw [← HPP.out]; exact fun h => hc0 h.1
      have hn0 : (n == 0) = false := by simp [hc0]
      clear hc0
      go_enter Tryd.func76, Tryd.ntmps76
      go_wp2_with fail
      go_ret
      exact bres_no HF.out hA
  · rw [shD8]
    clear h1 h2
    have g0 : w.cell? ⟨0, 32, none⟩ = some (.string ⟨#[99, 97, 108, 108]⟩) := ht 32 _ rfl
    have g1 : w.cell? ⟨0, 33, none⟩ = some (.bool true) := ht 33 _ rfl
    have g2 : w.cell? ⟨0, 34, none⟩ = some (.bool true) := ht 34 _ rfl
    have g3 : w.cell? ⟨0, 35, none⟩ = some (.bool false) := ht 35 _ rfl
    have hA : Below w.heap.size w ((w.alloc (.cells #[.int .i64 8, .int .i64 n, .string s, .int .i64 tq] 48)).alloc (.cells #[.string ⟨#[99, 97, 108, 108]⟩, .bool true, .bool true, .bool false] 120)) := ((Below.refl _ _).alloc (Nat.le_refl _) _).alloc (by simp) _
    clear ht
    obtain ⟨PP, hPP⟩ : ∃ P : Prop, (tq = 0) = P := ⟨_, rfl⟩
    have HPP : Hid ((tq = 0) = PP) := hPP
    rw [hPP]
    clear hPP
    by_cases hc0 : tq = 0
    · have HP0 : Hid (tq = 0) := hc0
      have ht0 : (tq == 0) = true := by simp [hc0]
      clear hc0
      have HF : Hid PP := by rw [← HPP.out]; exact HP0.out
      go_enter Tryd.func76, Tryd.ntmps76
      go_wp2_with fail
      go_ret
      exact bres_yes HF.out hA
    · have HF : Hid (¬ PP) := by rw [← HPP.out]; exact fun h => hc0 h
      have ht0 : (tq == 0) = false := by simp [hc0]
      clear hc0
      go_enter Tryd.func76, Tryd.ntmps76
      go_wp2_with fail
      go_ret
      exact bres_no HF.out hA
  · rw [shD9]
    clear h1 h2
    have g0 : w.cell? ⟨0, 36, none⟩ = some (.string ⟨#[109, 97, 116, 99, 104]⟩) := ht 36 _ rfl
    have g1 : w.cell? ⟨0, 37, none⟩ = some (.bool false) := ht 37 _ rfl
    have g2 : w.cell? ⟨0, 38, none⟩ = some (.bool true) := ht 38 _ rfl
    have g3 : w.cell? ⟨0, 39, none⟩ = some (.bool true) := ht 39 _ rfl
    have hA : Below w.heap.size w ((w.alloc (.cells #[.int .i64 9, .int .i64 n, .string s, .int .i64 tq] 48)).alloc (.cells #[.string ⟨#[109, 97, 116, 99, 104]⟩, .bool false, .bool true, .bool true] 120)) := ((Below.refl _ _).alloc (Nat.le_refl _) _).alloc (by simp) _
    clear ht
    obtain ⟨PP, hPP⟩ : ∃ P : Prop, (s.size = 0) = P := ⟨_, rfl⟩
    have HPP : Hid ((s.size = 0) = PP) := hPP
    rw [hPP]
    clear hPP
    by_cases hc0 : s.size = 0
    · have HP0 : Hid (s.size = 0) := hc0
      have he : s.toList.isEmpty = true := (empty_iff s).2 hc0
      clear hc0
      have HF : Hid PP := by rw [← HPP.out]; exact HP0.out
      go_enter Tryd.func76, Tryd.ntmps76
      go_wp2_with fail
      go_ret
      exact bres_yes HF.out hA
    · have HF : Hid (¬ PP) := by rw [← HPP.out]; exact fun h => hc0 h
      have he : s.toList.isEmpty = false := empty_no hc0
      clear hc0
      go_enter Tryd.func76, Tryd.ntmps76
      go_wp2_with fail
      go_ret
      exact bres_no HF.out hA
  · rw [shD10]
    clear h1 h2
    have g0 : w.cell? ⟨0, 40, none⟩ = some (.string ⟨#[106, 117, 109, 112]⟩) := ht 40 _ rfl
    have g1 : w.cell? ⟨0, 41, none⟩ = some (.bool false) := ht 41 _ rfl
    have g2 : w.cell? ⟨0, 42, none⟩ = some (.bool false) := ht 42 _ rfl
    have g3 : w.cell? ⟨0, 43, none⟩ = some (.bool true) := ht 43 _ rfl
    have hA : Below w.heap.size w ((w.alloc (.cells #[.int .i64 10, .int .i64 n, .string s, .int .i64 tq] 48)).alloc (.cells #[.string ⟨#[106, 117, 109, 112]⟩, .bool false, .bool false, .bool true] 120)) := ((Below.refl _ _).alloc (Nat.le_refl _) _).alloc (by simp) _
    clear ht
    obtain ⟨PP, hPP⟩ : ∃ P : Prop, (s.size = 0 ∧ n = 0) = P := ⟨_, rfl⟩
    have HPP : Hid ((s.size = 0 ∧ n = 0) = PP) := hPP
    rw [hPP]
    clear hPP
    by_cases hc0 : s.size = 0
    · have HP0 : Hid (s.size = 0) := hc0
      have he : s.toList.isEmpty = true := (empty_iff s).2 hc0
      clear hc0
      by_cases hc1 : n = 0
      · have HP1 : Hid (n = 0) := hc1
        have hn0 : (n == 0) = true := by simp [hc1]
        clear hc1
        have HF : Hid PP := by rw [← HPP.out]; exact ⟨(HP0.out), (HP1.out)⟩
        go_enter Tryd.func76, Tryd.ntmps76
        go_wp2_with fail
        go_ret
        exact bres_yes HF.out hA
      · have HF : Hid (¬ PP) := by rw [← HPP.out]; exact fun h => hc1 h.2
        have hn0 : (n == 0) = false := by simp [hc1]
        clear hc1
        go_enter Tryd.func76, Tryd.ntmps76
        go_wp2_with fail
        go_ret
        exact bres_no HF.out hA
    · have HF : Hid (¬ PP) := by rw [← HPP.out]; exact fun h => hc0 h.1
      have he : s.toList.isEmpty = false := empty_no hc0
      clear hc0
      go_enter Tryd.func76, Tryd.ntmps76
      go_wp2_with fail
      go_ret
      exact bres_no HF.out hA
  · rw [shD11]
    clear h1 h2
    have g0 : w.cell? ⟨0, 44, none⟩ = some (.string ⟨#[102, 97, 105, 108]⟩) := ht 44 _ rfl
    have g1 : w.cell? ⟨0, 45, none⟩ = some (.bool false) := ht 45 _ rfl
    have g2 : w.cell? ⟨0, 46, none⟩ = some (.bool false) := ht 46 _ rfl
    have g3 : w.cell? ⟨0, 47, none⟩ = some (.bool false) := ht 47 _ rfl
    have hA : Below w.heap.size w ((w.alloc (.cells #[.int .i64 11, .int .i64 n, .string s, .int .i64 tq] 48)).alloc (.cells #[.string ⟨#[102, 97, 105, 108]⟩, .bool false, .bool false, .bool false] 120)) := ((Below.refl _ _).alloc (Nat.le_refl _) _).alloc (by simp) _
    clear ht
    obtain ⟨PP, hPP⟩ : ∃ P : Prop, (s.size = 0 ∧ n = 0 ∧ tq = 0) = P := ⟨_, rfl⟩
    have HPP : Hid ((s.size = 0 ∧ n = 0 ∧ tq = 0) = PP) := hPP
    rw [hPP]
    clear hPP
    by_cases hc0 : s.size = 0
    · have HP0 : Hid (s.size = 0) := hc0
      have he : s.toList.isEmpty = true := (empty_iff s).2 hc0
      clear hc0
      by_cases hc1 : n = 0
      · have HP1 : Hid (n = 0) := hc1
        have hn0 : (n == 0) = true := by simp [hc1]
        clear hc1
        by_cases hc2 : tq = 0
        · have HP2 : Hid (tq = 0) := hc2
          have ht0 : (tq == 0) = true := by simp [hc2]
          clear hc2
          have HF : Hid PP := by rw [← HPP.out]; exact ⟨(HP0.out), (HP1.out), (HP2.out)⟩
          go_enter Tryd.func76, Tryd.ntmps76
          go_wp2_with fail
          go_ret
          exact bres_yes HF.out hA
        · have HF : Hid (¬ PP) := by rw [← HPP.out]; exact fun h => hc2 h.2.2
          have ht0 : (tq == 0) = false := by simp [hc2]
          clear hc2
          go_enter Tryd.func76, Tryd.ntmps76
          go_wp2_with fail
          go_ret
          exact bres_no HF.out hA
      · have HF : Hid (¬ PP) := by rw [← HPP.out]; exact fun h => hc1 h.2.1
        have hn0 : (n == 0) = false := by simp [hc1]
        clear hc1
        go_enter Tryd.func76, Tryd.ntmps76
        go_wp2_with fail
        go_ret
        exact bres_no HF.out hA
    · have HF : Hid (¬ PP) := by rw [← HPP.out]; exact fun h => hc0 h.1
      have he : s.toList.isEmpty = false := empty_no hc0
      clear hc0
      go_enter Tryd.func76, Tryd.ntmps76
      go_wp2_with fail
      go_ret
      exact bres_no HF.out hA
  · rw [shD12]
    clear h1 h2
    have g0 : w.cell? ⟨0, 48, none⟩ = some (.string ⟨#[114, 101, 116]⟩) := ht 48 _ rfl
    have g1 : w.cell? ⟨0, 49, none⟩ = some (.bool false) := ht 49 _ rfl
    have g2 : w.cell? ⟨0, 50, none⟩ = some (.bool false) := ht 50 _ rfl
    have g3 : w.cell? ⟨0, 51, none⟩ = some (.bool false) := ht 51 _ rfl
    have hA : Below w.heap.size w ((w.alloc (.cells #[.int .i64 12, .int .i64 n, .string s, .int .i64 tq] 48)).alloc (.cells #[.string ⟨#[114, 101, 116]⟩, .bool false, .bool false, .bool false] 120)) := ((Below.refl _ _).alloc (Nat.le_refl _) _).alloc (by simp) _
    clear ht
    obtain ⟨PP, hPP⟩ : ∃ P : Prop, (s.size = 0 ∧ n = 0 ∧ tq = 0) = P := ⟨_, rfl⟩
    have HPP : Hid ((s.size = 0 ∧ n = 0 ∧ tq = 0) = PP) := hPP
    rw [hPP]
    clear hPP
    by_cases hc0 : s.size = 0
    · have HP0 : Hid (s.size = 0) := hc0
      have he : s.toList.isEmpty = true := (empty_iff s).2 hc0
      clear hc0
      by_cases hc1 : n = 0
      · have HP1 : Hid (n = 0) := hc1
        have hn0 : (n == 0) = true := by simp [hc1]
        clear hc1
        by_cases hc2 : tq = 0
        · have HP2 : Hid (tq = 0) := hc2
          have ht0 : (tq == 0) = true := by simp [hc2]
          clear hc2
          have HF : Hid PP := by rw [← HPP.out]; exact ⟨(HP0.out), (HP1.out), (HP2.out)⟩
          go_enter Tryd.func76, Tryd.ntmps76
          go_wp2_with fail
          go_ret
          exact bres_yes HF.out hA
        · have HF : Hid (¬ PP) := by rw [← HPP.out]; exact fun h => hc2 h.2.2
          have ht0 : (tq == 0) = false := by simp [hc2]
          clear hc2
          go_enter Tryd.func76, Tryd.ntmps76
          go_wp2_with fail
          go_ret
          exact bres_no HF.out hA
      · have HF : Hid (¬ PP) := by rw [← HPP.out]; exact fun h => hc1 h.2.1
        have hn0 : (n == 0) = false := by simp [hc1]
        clear hc1
        go_enter Tryd.func76, Tryd.ntmps76
        go_wp2_with fail
        go_ret
        exact bres_no HF.out hA
    · have HF : Hid (¬ PP) := by rw [← HPP.out]; exact fun h => hc0 h.1
      have he : s.toList.isEmpty = false := empty_no hc0
      clear hc0
      go_enter Tryd.func76, Tryd.ntmps76
      go_wp2_with fail
      go_ret
      exact bres_no HF.out hA

end Go.Proofs.YtfachfimdenapaaDoor

/- From an instruction to all that it leads to: the program's. -/
namespace Go.Proofs.YtfachfimdenapaaDoor
open Go.RowKit
set_option linter.unusedVariables false

theorem HRes.from {o : Option (List Int)} {g : Nat} {w V w' : World} {e : Ending} (h : HRes o g V e w') (hT : Turned g w V) : HRes o g w e w' := by
  obtain ⟨b, h1, h2, h3, h4⟩ := h
  exact ⟨b, h1, h2, h3, hT.trans h4⟩

theorem cmP_nat {n : Nat} {hs : List Int} {k : Nat} {h : Int} : cmP n hs (k : Int) h = if k < n ∧ h ≤ 300 then cmD hs k h else none := by
  unfold cmP
  by_cases q : k < n ∧ h ≤ 300
  · rw [if_pos (by omega), if_pos q]; simp
  · rw [if_neg (by omega), if_neg q]

set_option maxRecDepth 100000 in
set_option maxHeartbeats 4000000 in
theorem leave_any (g : Nat) (hs : List Int) (n c i : Nat) (h op nn : Int) (s : ByteArray) (tq : Int) (w : World) (hR : HRow w g hs) (hn : n = hs.length) (hh : hs[i]? = some h) (hI : I64 h) (hlen : n ≤ 1500) (h1 : 1 ≤ op) (h2 : op ≤ 12) :
    Calls Tryd.prog 79 #[.slice (some ⟨g, 0, none⟩) n c, .int .i64 i, .agg #[.int .i64 op, .int .i64 nn, .string s, .int .i64 tq]] w fun e w' => HRes (stP n i ⟨op, nn, s, tq⟩ hs) g w e w' := by
  obtain ⟨W, hW⟩ : ∃ W, W = w.alloc (.cells #[.int .i64 op, .int .i64 nn, .string s, .int .i64 tq] 48) := ⟨_, rfl⟩
  have hA : Below w.heap.size w W := by rw [hW]; exact (Below.refl _ _).alloc (Nat.le_refl _) _
  have nA : W.heap[w.heap.size]? = some (.cells #[.int .i64 op, .int .i64 nn, .string s, .int .i64 tq] 48 (0, 0)) := by rw [hW]; exact heap_alloc_new w _
  have hin : i < n := by have := (List.getElem?_eq_some_iff.1 hh).1; omega
  have hin' : (i : Int) < (n : Int) := by omega
  have hRW : HRow W g hs := hR.kept (hA.block _ hR.lt)
  have HA : Hid (Below w.heap.size w W) := hA
  have HRW : Hid (HRow W g hs) := hRW
  have q0 : W.cell? ⟨w.heap.size, 0, none⟩ = some (.int .i64 op) := by rw [cell_of_row W _ 0 _ _ _ nA]; rfl
  have q1 : W.cell? ⟨w.heap.size, 1, none⟩ = some (.int .i64 nn) := by rw [cell_of_row W _ 1 _ _ _ nA]; rfl
  have q2 : W.cell? ⟨w.heap.size, 2, none⟩ = some (.string s) := by rw [cell_of_row W _ 2 _ _ _ nA]; rfl
  have q3 : W.cell? ⟨w.heap.size, 3, none⟩ = some (.int .i64 tq) := by rw [cell_of_row W _ 3 _ _ _ nA]; rfl
  have qh : W.cell? ⟨g, i, none⟩ = some (.int .i64 h) := hRW.cell hh
  obtain ⟨tk, htk⟩ : ∃ t, tkD op nn = t := ⟨_, rfl⟩
  have HCT : Hid (∀ V : World, Calls Tryd.prog 85 #[.agg #[.int .i64 op, .int .i64 nn, .string s, .int .i64 tq]] V fun e w' => e = .returned (.int .i64 tk) ∧ Below V.heap.size V w') := fun V => by rw [← htk]; exact takenBy_any op nn s tq V h1 h2
  have HCM : Hid (∀ (V : World) (hs' : List Int) (k h' : Int), HRow V g hs' → n = hs'.length → 0 ≤ k → Calls Tryd.prog 86 #[.slice (some ⟨g, 0, none⟩) n c, .int .i64 k, .int .i64 h'] V fun e w' => HRes (cmP n hs' k h') g V e w') := fun V hs' k h' r1 r2 r3 => come_any g hs' n c k h' V r1 r2 r3 hlen
  have HST : Hid (stP n i ⟨op, nn, s, tq⟩ hs = if h < tk then none else if op = 9 then if (i : Int) < tq ∧ tq < n ∧ h ≤ 300 then (cmD hs tq.toNat h).bind fun q => if i + 1 < n ∧ h - 1 ≤ 300 then cmD q (i + 1) (h - 1) else none else none else if op = 10 then if (i : Int) < tq ∧ tq < n ∧ h ≤ 300 then cmD hs tq.toNat h else none else if op = 11 then some hs else if op = 12 then if h = 1 then some hs else none else if i + 1 < n ∧ nxD h tk ≤ 300 then cmD hs (i + 1) (nxD h tk) else none) := by
    show _ = _
    unfold stP
    rw [hh]
    simp only
    rw [htk]
  have HTK : Hid (tkD op nn = tk) := htk
  have HNL : Hid (n = hs.length) := hn
  have HHH : Hid (hs[i]? = some h) := hh
  obtain ⟨OO, hOO⟩ : ∃ o, stP n i ⟨op, nn, s, tq⟩ hs = o := ⟨_, rfl⟩
  rw [hOO] at HST
  rw [hOO]
  have hgl : g < W.heap.size := hRW.lt
  have hwl : w.heap.size < W.heap.size := lt_row nA
  have HWC : Hid (∀ V : World, Below W.heap.size W V → V.cell? ⟨w.heap.size, 0, none⟩ = some (.int .i64 op) ∧ V.cell? ⟨w.heap.size, 3, none⟩ = some (.int .i64 tq) ∧ HRow V g hs ∧ Turned g w V) := fun V hV => ⟨cell_later hV q0, cell_later hV q3, HRW.out.kept (hV.block _ HRW.out.lt), Turned.of_below (HA.out.trans (hV.mono HA.out.size))⟩
  clear hR hA nA hRW hOO htk hh hn
  go_enter Tryd.func79, Tryd.ntmps79
  go_wp2_with fail
  rw [← hW]
  clear hW
  have hn0 := After.some W
  have p0 := After.cell q0
  have p1 := After.cell q1
  have p2 := After.cell q2
  have p3 := After.cell q3
  have p4 := After.cell qh
  clear q0 q1 q2 q3 qh
  refine wp_region_after (by kernel_rfl) (by kernel_rfl) ?_
  repeat (go_big_quiet_step ((go_at_call 85; exact calls_after (HCT.out _))))
  refine wpQuiet_nil ?_
  rintro _ ⟨nq, rfl⟩
  obtain ⟨V, hV⟩ : ∃ V, nq.now = V := ⟨_, rfl⟩
  obtain ⟨m0, m3, mR, mT⟩ := HWC.out nq.now nq.bel
  rw [hV] at m0 m3 mR mT
  rw [hV]
  have MR : Hid (HRow V g hs) := mR
  have MT : Hid (Turned g w V) := mT
  have hVg := mR.lt
  have hVw : w.heap.size < V.heap.size := by have := World.block_lt_of_cell? V _ m0; simpa using this
  clear p0 p1 p2 p3 p4 hn0 HWC HRW HA mR mT hV nq
  by_cases hlt : h < tk
  · have HF : Hid (OO = none) := by rw [HST.out, if_pos hlt]; rfl
    clear m0 m3
    go_wp2_with fail
    go_ret
    exact hres_no HF.out MT.out
  rw [if_neg hlt] at HST
  have hlt' : decide (h < tk) = false := decide_eq_false hlt
  clear hlt
  have HIN : Hid (i + 1 ≤ n) := hin
  rcases ins_ops h1 h2 with rfl | rfl | rfl | rfl | rfl | rfl | rfl | rfl | rfl | rfl | rfl | rfl
  case inr.inr.inr.inr.inr.inr.inr.inr.inl =>
    obtain rfl : tk = 1 := by rw [← HTK.out]; rfl
    have hh1 : ¬ h < 1 := by simpa using hlt'
    rw [if_pos rfl] at HST
    by_cases hto : (i : Int) < tq
    case neg =>
      have HF : Hid (OO = none) := by rw [HST.out, if_neg (by omega)]; rfl
      have hto' : decide ((i : Int) < tq) = false := decide_eq_false hto
      clear hto
      go_wp2_with fail
      go_ret
      exact hres_no HF.out MT.out
    have hC := HCM.out V hs tq h MR.out HNL.out (by omega)
    go_wp2_with fail
    (with_reducible refine hC.mono ?_)
    clear hC
    rintro e V1 ⟨b, rfl, y1, y2, y3⟩
    have HT1 : Hid (Turned g w V1) := MT.out.trans y3
    cases b with
    | false =>
      have HF : Hid (OO = none) := by
        have e1 := y2 rfl
        rw [HST.out]
        show _ = _
        unfold cmP at e1
        split
        · rw [if_pos (by omega)] at e1
          rw [e1]; rfl
        · rfl
      clear y1 y2 y3 m0 m3
      go_wp2_with fail
      go_ret
      exact hres_no HF.out HT1.out
    | true =>
      obtain ⟨q, e1, e2⟩ := y1 rfl
      have e3 : ((i : Int) < tq ∧ tq < n ∧ h ≤ 300) ∧ cmD hs tq.toNat h = some q := by
        unfold cmP at e1
        split at e1
        · exact ⟨by omega, e1⟩
        · cases e1
      rw [if_pos e3.1, e3.2] at HST
      have HL2 : Hid (n = q.length) := by rw [cmD_len e3.2]; exact HNL.out
      have hC := HCM.out V1 q ((i : Int) + 1) (h - 1) e2 HL2.out (by omega)
      have hh3 : h ≤ 300 := e3.1.2.2
      clear y1 y2 y3 e1 e2 e3 m0 m3
      go_wp2_with fail
      (with_reducible refine hC.mono ?_)
      clear hC
      rintro e V2 ⟨b, rfl, y1, y2, y3⟩
      have HT2 : Hid (Turned g w V2) := HT1.out.trans y3
      have HO2 : Hid (OO = cmP n q ((i : Int) + 1) (h - 1)) := by
        rw [HST.out, show (i : Int) + 1 = ((i + 1 : Nat) : Int) from by omega, cmP_nat]; rfl
      have HF : HRes OO g w (.returned (.bool b)) V2 := ⟨b, rfl, by rw [HO2.out]; exact y1, by rw [HO2.out]; exact y2, HT2.out⟩
      have HF2 : Hid (HRes OO g w (.returned (.bool b)) V2) := HF
      clear y1 y2 y3 HF
      go_wp2_with fail
      go_ret
      exact HF2.out
  case inr.inr.inr.inr.inr.inr.inr.inr.inr.inl =>
    rw [if_neg (by omega), if_pos rfl] at HST
    by_cases hto : (i : Int) < tq
    case neg =>
      have HF : Hid (OO = none) := by rw [HST.out, if_neg (by omega)]; rfl
      have hto' : decide ((i : Int) < tq) = false := decide_eq_false hto
      clear hto
      go_wp2_with fail
      go_ret
      exact hres_no HF.out MT.out
    have hC := HCM.out V hs tq h MR.out HNL.out (by omega)
    go_wp2_with fail
    (with_reducible refine hC.mono ?_)
    clear hC
    rintro e V2 ⟨b, rfl, y1, y2, y3⟩
    have HT2 : Hid (Turned g w V2) := MT.out.trans y3
    have HO2 : Hid (OO = cmP n hs tq h) := by
      rw [HST.out]
      show _ = _
      unfold cmP
      by_cases q : tq < n ∧ h ≤ 300
      · rw [if_pos q, if_pos (by omega)]
      · rw [if_neg q, if_neg (by omega)]
    have HF2 : Hid (HRes OO g w (.returned (.bool b)) V2) := ⟨b, rfl, by rw [HO2.out]; exact y1, by rw [HO2.out]; exact y2, HT2.out⟩
    clear y1 y2 y3 m0 m3
    go_wp2_with fail
    go_ret
    exact HF2.out
  case inr.inr.inr.inr.inr.inr.inr.inr.inr.inr.inl =>
    rw [if_neg (by omega), if_neg (by omega), if_pos rfl] at HST
    clear m3
    go_wp2_with fail
    go_ret
    exact hres_yes HST.out MR.out MT.out
  case inr.inr.inr.inr.inr.inr.inr.inr.inr.inr.inr =>
    rw [if_neg (by omega), if_neg (by omega), if_neg (by omega), if_pos rfl] at HST
    by_cases hh1 : h = 1
    · rw [if_pos hh1] at HST
      have hh1' : (h == 1) = true := by simp [hh1]
      clear m3 hh1
      go_wp2_with fail
      go_ret
      exact hres_yes HST.out MR.out MT.out
    · rw [if_neg hh1] at HST
      have hh1' : (h == 1) = false := by simp [hh1]
      clear m3 hh1
      go_wp2_with fail
      go_ret
      exact hres_no HST.out MT.out
  all_goals
    rw [if_neg (by omega), if_neg (by omega), if_neg (by omega), if_neg (by omega)] at HST
    have hC := HCM.out V hs ((i : Int) + 1) (nxD h tk) MR.out HNL.out (by omega)
    unfold nxD at hC
    clear m3
    go_wp2_with fail
    (with_reducible refine hC.mono ?_)
    clear hC
    rintro e V2 ⟨b, rfl, y1, y2, y3⟩
    have HT2 : Hid (Turned g w V2) := MT.out.trans y3
    have HO2 : Hid (OO = cmP n hs ((i : Int) + 1) (nxD h tk)) := by
      rw [HST.out, show (i : Int) + 1 = ((i + 1 : Nat) : Int) from by omega, cmP_nat]; rfl
    have HF2 : Hid (HRes OO g w (.returned (.bool b)) V2) := ⟨b, rfl, by rw [HO2.out]; exact y1, by rw [HO2.out]; exact y2, HT2.out⟩
    clear y1 y2 y3 m0
    go_wp2_with fail
    go_ret
    exact HF2.out

end Go.Proofs.YtfachfimdenapaaDoor

/- The table of shapes, as the program's own text lays it. -/
namespace Go.Proofs.YtfachfimdenapaaDoor
open Go.RowKit
set_option linter.unusedVariables false

theorem Tryd.cellsShape : Tryd.prog.cellsOf 120 = 4 := by kernel_rfl
theorem Tryd.cellsOne9 : Tryd.prog.cellsOf 9 = 1 := by kernel_rfl
theorem Tryd.cellsOne4 : Tryd.prog.cellsOf 4 = 1 := by kernel_rfl
theorem gShapes : Tryd.prog.globalNamed "loop.example/g00236/impl.shapes" = some 0 := by kernel_rfl
theorem tShapes : (Tryd.prog.globals[(0 : Nat)]?).map (·.type) = some 121 := by kernel_rfl

section
variable {H : Type} {enc : TypeId × Value → H} {W : World} {base : Nat} {spare : Nat → Bool} {held : Bool}
set_option maxRecDepth 100000 in
set_option maxHeartbeats 1000000 in
theorem shape_elem {fuel : Nat} {cs : List Value} {bs : List UInt8} {x y z : Bool} {q : List MemPlace}
    (h : DataW.trod enc Tryd.prog W base spare held fuel 120 cs = some (.agg [.lit (.string bs), .lit (.bool x), .lit (.bool y), .lit (.bool z)], q)) : cs = [.string ⟨bs.toArray⟩, .bool x, .bool y, .bool z] := by
  obtain ⟨xs, n, rfl, hx, hl, hxl, hall⟩ := DataW.trod_struct Tryd.underlying120 h
  rw [Tryd.cellsShape] at hl
  have hm : xs.map (·.1) = [.lit (.string bs), .lit (.bool x), .lit (.bool y), .lit (.bool z)] := by
    have := congrArg Prod.fst hx
    simpa using this.symm
  match cs, hl with
  | [c0, c1, c2, c3], _ =>
  match xs, hm with
  | [x0, x1, x2, x3], hm =>
  simp only [List.map_cons, List.map_nil, List.cons.injEq, and_true] at hm
  obtain ⟨m0, m1, m2, m3⟩ := hm
  have a0 := hall 0 _ rfl
  change DataW.trod enc Tryd.prog W base spare held n 9 ((([c0, c1, c2, c3] : List Value).drop 0).take (Tryd.prog.cellsOf 9)) = some x0 at a0
  rw [Tryd.cellsOne9] at a0
  change DataW.trod enc Tryd.prog W base spare held n 9 [c0] = some x0 at a0
  have a1 := hall 1 _ rfl
  change DataW.trod enc Tryd.prog W base spare held n 4 ((([c0, c1, c2, c3] : List Value).drop 1).take (Tryd.prog.cellsOf 4)) = some x1 at a1
  rw [Tryd.cellsOne4] at a1
  change DataW.trod enc Tryd.prog W base spare held n 4 [c1] = some x1 at a1
  have a2 := hall 2 _ rfl
  change DataW.trod enc Tryd.prog W base spare held n 4 ((([c0, c1, c2, c3] : List Value).drop 2).take (Tryd.prog.cellsOf 4)) = some x2 at a2
  rw [Tryd.cellsOne4] at a2
  change DataW.trod enc Tryd.prog W base spare held n 4 [c2] = some x2 at a2
  have a3 := hall 3 _ rfl
  change DataW.trod enc Tryd.prog W base spare held n 4 ((([c0, c1, c2, c3] : List Value).drop 3).take (Tryd.prog.cellsOf 4)) = some x3 at a3
  rw [Tryd.cellsOne4] at a3
  change DataW.trod enc Tryd.prog W base spare held n 4 [c3] = some x3 at a3
  obtain ⟨s, e0, f0, _⟩ := DataW.trod_string Tryd.underlying9 a0
  obtain ⟨b1, e1, f1⟩ := DataW.trod_bool Tryd.underlying4 a1
  obtain ⟨b2, e2, f2⟩ := DataW.trod_bool Tryd.underlying4 a2
  obtain ⟨b3, e3, f3⟩ := DataW.trod_bool Tryd.underlying4 a3
  rw [f0] at m0
  rw [f1] at m1
  rw [f2] at m2
  rw [f3] at m3
  cases m0
  cases m1
  cases m2
  cases m3
  cases e0
  cases e1
  cases e2
  cases e3
  rfl
end

set_option maxRecDepth 100000 in
set_option maxHeartbeats 4000000 in
theorem sh_of_laid {W : World} (h : laidMet Tryd.prog [("loop.example/g00236/impl.shapes", Rows.laid_loop_example_g00236_impl_shapes)] W) : ShOk W := by
  obtain ⟨g, t, cs, fuel, p, hg, ht, hvar, hd⟩ := Lib.laidMet.reads h (.head _)
  obtain rfl := Option.some.inj (gShapes.symm.trans hg)
  obtain rfl := Option.some.inj (tShapes.symm.trans ht)
  have hc := World.var?_cell gShapes hvar
  have e0 : (cs.toList.drop (0 * 4)).take 4 = [.string ⟨#[]⟩, .bool false, .bool false, .bool false] := by
    obtain ⟨fu, d, q, h1, h2⟩ := Lib.array_elem Tryd.underlying121 hd 0 (by omega)
    rw [Tryd.cellsShape] at h2
    cases h1
    exact shape_elem h2
  have e1 : (cs.toList.drop (1 * 4)).take 4 = [.string ⟨#[105, 110, 116]⟩, .bool false, .bool true, .bool false] := by
    obtain ⟨fu, d, q, h1, h2⟩ := Lib.array_elem Tryd.underlying121 hd 1 (by omega)
    rw [Tryd.cellsShape] at h2
    cases h1
    exact shape_elem h2
  have e2 : (cs.toList.drop (2 * 4)).take 4 = [.string ⟨#[97, 116, 111, 109]⟩, .bool true, .bool false, .bool false] := by
    obtain ⟨fu, d, q, h1, h2⟩ := Lib.array_elem Tryd.underlying121 hd 2 (by omega)
    rw [Tryd.cellsShape] at h2
    cases h1
    exact shape_elem h2
  have e3 : (cs.toList.drop (3 * 4)).take 4 = [.string ⟨#[108, 111, 97, 100]⟩, .bool false, .bool true, .bool false] := by
    obtain ⟨fu, d, q, h1, h2⟩ := Lib.array_elem Tryd.underlying121 hd 3 (by omega)
    rw [Tryd.cellsShape] at h2
    cases h1
    exact shape_elem h2
  have e4 : (cs.toList.drop (4 * 4)).take 4 = [.string ⟨#[116, 117, 112, 108, 101]⟩, .bool false, .bool true, .bool false] := by
    obtain ⟨fu, d, q, h1, h2⟩ := Lib.array_elem Tryd.underlying121 hd 4 (by omega)
    rw [Tryd.cellsShape] at h2
    cases h1
    exact shape_elem h2
  have e5 : (cs.toList.drop (5 * 4)).take 4 = [.string ⟨#[108, 105, 115, 116]⟩, .bool false, .bool true, .bool false] := by
    obtain ⟨fu, d, q, h1, h2⟩ := Lib.array_elem Tryd.underlying121 hd 5 (by omega)
    rw [Tryd.cellsShape] at h2
    cases h1
    exact shape_elem h2
  have e6 : (cs.toList.drop (6 * 4)).take 4 = [.string ⟨#[99, 111, 110, 115]⟩, .bool false, .bool true, .bool false] := by
    obtain ⟨fu, d, q, h1, h2⟩ := Lib.array_elem Tryd.underlying121 hd 6 (by omega)
    rw [Tryd.cellsShape] at h2
    cases h1
    exact shape_elem h2
  have e7 : (cs.toList.drop (7 * 4)).take 4 = [.string ⟨#[111, 112]⟩, .bool true, .bool false, .bool false] := by
    obtain ⟨fu, d, q, h1, h2⟩ := Lib.array_elem Tryd.underlying121 hd 7 (by omega)
    rw [Tryd.cellsShape] at h2
    cases h1
    exact shape_elem h2
  have e8 : (cs.toList.drop (8 * 4)).take 4 = [.string ⟨#[99, 97, 108, 108]⟩, .bool true, .bool true, .bool false] := by
    obtain ⟨fu, d, q, h1, h2⟩ := Lib.array_elem Tryd.underlying121 hd 8 (by omega)
    rw [Tryd.cellsShape] at h2
    cases h1
    exact shape_elem h2
  have e9 : (cs.toList.drop (9 * 4)).take 4 = [.string ⟨#[109, 97, 116, 99, 104]⟩, .bool false, .bool true, .bool true] := by
    obtain ⟨fu, d, q, h1, h2⟩ := Lib.array_elem Tryd.underlying121 hd 9 (by omega)
    rw [Tryd.cellsShape] at h2
    cases h1
    exact shape_elem h2
  have e10 : (cs.toList.drop (10 * 4)).take 4 = [.string ⟨#[106, 117, 109, 112]⟩, .bool false, .bool false, .bool true] := by
    obtain ⟨fu, d, q, h1, h2⟩ := Lib.array_elem Tryd.underlying121 hd 10 (by omega)
    rw [Tryd.cellsShape] at h2
    cases h1
    exact shape_elem h2
  have e11 : (cs.toList.drop (11 * 4)).take 4 = [.string ⟨#[102, 97, 105, 108]⟩, .bool false, .bool false, .bool false] := by
    obtain ⟨fu, d, q, h1, h2⟩ := Lib.array_elem Tryd.underlying121 hd 11 (by omega)
    rw [Tryd.cellsShape] at h2
    cases h1
    exact shape_elem h2
  have e12 : (cs.toList.drop (12 * 4)).take 4 = [.string ⟨#[114, 101, 116]⟩, .bool false, .bool false, .bool false] := by
    obtain ⟨fu, d, q, h1, h2⟩ := Lib.array_elem Tryd.underlying121 hd 12 (by omega)
    rw [Tryd.cellsShape] at h2
    cases h1
    exact shape_elem h2
  have hk : ∀ k, k < 13 → (cs.toList.drop (k * 4)).take 4 = (shL.drop (k * 4)).take 4 := fun k hk => by
    match k, hk with
    | 0, _ => exact e0
    | 1, _ => exact e1
    | 2, _ => exact e2
    | 3, _ => exact e3
    | 4, _ => exact e4
    | 5, _ => exact e5
    | 6, _ => exact e6
    | 7, _ => exact e7
    | 8, _ => exact e8
    | 9, _ => exact e9
    | 10, _ => exact e10
    | 11, _ => exact e11
    | 12, _ => exact e12
  intro i v hv
  have hi : i < 52 := (List.getElem?_eq_some_iff.1 hv).1
  have h1 := hk (i / 4) (by omega)
  have h2 : ∀ l : List Value, ((l.drop (i / 4 * 4)).take 4)[i % 4]? = l[i]? := fun l => by
    rw [List.getElem?_take, if_pos (by omega), List.getElem?_drop, show i / 4 * 4 + i % 4 = i by omega]
  rw [hc i, ← Array.getElem?_toList, ← h2, h1, h2]
  exact hv

end Go.Proofs.YtfachfimdenapaaDoor
