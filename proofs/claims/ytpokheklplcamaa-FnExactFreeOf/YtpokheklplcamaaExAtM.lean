/- An atom as an expression: what the program tells of it. -/
import Derived.Test.YtpokheklplcamaaIOkM
namespace Go.Proofs.Ytpokheklplcamaa
open Go.RowKit
set_option linter.unusedVariables false

/-- One of the three words. -/
def Wrd (s : ByteArray) : Prop := s.toList = [99, 97, 115, 101] ∨ s.toList = [111, 102] ∨ s.toList = [101, 110, 100]

theorem wrd_iff {s : ByteArray} {b x1 x2 x3 : Bool} (h1 : (s.toList == [99, 97, 115, 101]) = x1) (h2 : (s.toList == [111, 102]) = x2) (h3 : (s.toList == [101, 110, 100]) = x3) (hb : b = true ↔ AtomP s) :
    ((b && !x1 && !x2 && !x3) = true ↔ AtomP s ∧ ¬ Wrd s) := by
  subst h1 h2 h3
  unfold Wrd
  rw [← hb]
  simp [and_assoc]

theorem exprAtomOk_any (s : ByteArray) (w : World) (hs : s.size ≤ 9223372036854775807) :
    Calls Try.prog 93 #[.string s] w fun e w' => ∃ b : Bool, e = .returned (.bool b) ∧ (b = true ↔ AtomP s ∧ ¬ Wrd s) ∧ w = w' := by
  have hA := atomOk_any s w hs
  obtain ⟨x1, e1⟩ : ∃ x, (s.toList == [99, 97, 115, 101]) = x := ⟨_, rfl⟩
  obtain ⟨x2, e2⟩ : ∃ x, (s.toList == [111, 102]) = x := ⟨_, rfl⟩
  obtain ⟨x3, e3⟩ : ∃ x, (s.toList == [101, 110, 100]) = x := ⟨_, rfl⟩
  have HE : Hid (∀ b : Bool, (b = true ↔ AtomP s) → ((b && !x1 && !x2 && !x3) = true ↔ AtomP s ∧ ¬ Wrd s)) := fun b hb => wrd_iff e1 e2 e3 hb
  go_enter Try.func93, Try.ntmps93
  go_wp2_with fail
  refine hA.mono ?_
  clear hA
  rintro e w' ⟨b, rfl, hb, rfl⟩
  have HB := HE.out b hb
  clear hb HE hs
  cases b
  · go_wp2_with fail
    go_ret
    exact ⟨false, rfl, HB, rfl⟩
  · cases x1
    · cases x2
      · cases x3
        · go_wp2_with fail
          go_ret
          exact ⟨true, rfl, HB, rfl⟩
        · go_wp2_with fail
          go_ret
          exact ⟨false, rfl, HB, rfl⟩
      · go_wp2_with fail
        go_ret
        exact ⟨false, rfl, HB, rfl⟩
    · go_wp2_with fail
      go_ret
      exact ⟨false, rfl, HB, rfl⟩

theorem exprFields_atom (s : ByteArray) (w : World) (hs : s.size ≤ 9223372036854775807) :
    Calls Try.prog 67 #[.agg #[.int .i64 2, .int .i64 0, .string s, .slice none 0 0, .slice none 0 0]] w fun e w' => ∃ b : Bool, e = .returned (.bool b) ∧ (b = true ↔ AtomP s ∧ ¬ Wrd s) ∧ Below w.heap.size w w' := by
  obtain ⟨W, hW⟩ : ∃ W, W = w.alloc (.cells #[.int .i64 2, .int .i64 0, .string s, .slice none 0 0, .slice none 0 0] 27) := ⟨_, rfl⟩
  have hA : Below w.heap.size w W := by rw [hW]; exact (Below.refl _ _).alloc (Nat.le_refl _) _
  have hB1 : W.heap[w.heap.size]? = some (.cells #[.int .i64 2, .int .i64 0, .string s, .slice none 0 0, .slice none 0 0] 27 (0, 0)) := by rw [hW]; exact heap_alloc_new w _
  have HW : Hid (W = _) := hW
  have hC := exprAtomOk_any s W hs
  rw [hW] at hC
  clear hW
  go_enter Try.func67, Try.ntmps67
  go_wp2_with fail
  refine hC.mono ?_
  clear hC
  rintro e w' ⟨b, rfl, hb, rfl⟩
  have HB : Hid (b = true ↔ AtomP s ∧ ¬ Wrd s) := hb
  have HBL : Hid (Below w.heap.size w _) := hA
  clear hb hA
  cases b
  · go_wp2_with fail
    go_ret
    exact ⟨false, rfl, HB.out, by rw [HW.out] at HBL; exact HBL.out⟩
  · go_wp2_with fail
    go_ret
    exact ⟨true, rfl, by simpa using HB.out, by rw [HW.out] at HBL; exact HBL.out⟩

theorem expressionFits_atom (s : ByteArray) (p : Nat) (w : World) (hs : s.size ≤ 9223372036854775807) (hcell : w.heap[p]? = some (.cells #[.int .i64 300] 3 (0, 0))) :
    Calls Try.prog 38 #[.agg #[.int .i64 2, .int .i64 0, .string s, .slice none 0 0, .slice none 0 0], .int .i64 1, .pointer (some ⟨p, 0, none⟩)] w fun e w' => ∃ b : Bool, e = .returned (.bool b) ∧ (b = true ↔ AtomP s ∧ ¬ Wrd s) ∧ Turned p w w' := by
  have hpz : p < w.heap.size := Nat.lt_of_not_le fun h => by rw [Array.getElem?_eq_none h] at hcell; cases hcell
  have c0 : w.cell? ⟨p, 0, none⟩ = some (.int .i64 300) := by rw [cell_of_row w _ 0 _ _ _ hcell]; rfl
  have z0 : w.frozen? ⟨p, 0, none⟩ = false := frozen_of_row w _ _ _ _ hcell
  obtain ⟨W, hW⟩ : ∃ W, W = w.setCell ⟨p, 0, none⟩ (.int .i64 299) := ⟨_, rfl⟩
  have hWz : W.heap.size = w.heap.size := by rw [hW]; simp
  have hWp : W.heap[p]? = some (.cells #[.int .i64 299] 3 (0, 0)) := by rw [hW]; exact heap_setCell_same w p 0 _ _ _ hcell
  obtain ⟨V, hV⟩ : ∃ V, V = W.alloc (.cells #[.int .i64 2, .int .i64 0, .string s, .slice none 0 0, .slice none 0 0] 27) := ⟨_, rfl⟩
  have hA : Below W.heap.size W V := by rw [hV]; exact (Below.refl _ _).alloc (Nat.le_refl _) _
  have hT : Turned p w V := Turned.trans (by rw [hW]; exact Turned.of_set _ _ _ _) (Turned.of_below hA)
  have hVt : V.heap[w.heap.size]? = some (.cells #[.int .i64 2, .int .i64 0, .string s, .slice none 0 0, .slice none 0 0] 27 (0, 0)) := by
    rw [hV, ← hWz]; exact heap_alloc_new W _
  have hVz : V.heap.size = w.heap.size + 1 := by rw [hV]; simp [hWz]
  have hC := exprFields_atom s V hs
  rw [hV, hW] at hC
  have HV : Hid (V = _) := hV
  have HW : Hid (W = _) := hW
  clear hV hW hWp hA
  go_enter Try.func38, Try.ntmps38
  go_wp2_with fail
  refine hC.mono ?_
  clear hC
  rintro e w1 ⟨b, rfl, hb, hB⟩
  rw [← HW.out, ← HV.out] at hB
  have hT1 : Turned p w w1 := hT.trans (Turned.of_below hB)
  have HB : Hid (b = true ↔ AtomP s ∧ ¬ Wrd s) := hb
  have hVt1 := (hB.block _ (by omega)).trans hVt
  have c0 : w1.cell? ⟨w.heap.size, 0, none⟩ = some (.int .i64 2) := by rw [cell_of_row w1 _ 0 _ _ _ hVt1]; rfl
  have c3 : w1.cell? ⟨w.heap.size, 3, none⟩ = some (.slice none 0 0) := by rw [cell_of_row w1 _ 3 _ _ _ hVt1]; rfl
  have c4 : w1.cell? ⟨w.heap.size, 4, none⟩ = some (.slice none 0 0) := by rw [cell_of_row w1 _ 4 _ _ _ hVt1]; rfl
  clear hb hB HW HV hT hVz hVt hWz hVt1
  cases b
  · go_wp2_with fail
    go_ret
    exact ⟨false, rfl, HB.out, hT1⟩
  · go_wp2_with fail
    refine wp_loop_rounds 1 ?_
    rw [rounds_succ]
    go_wp2_with fail
    refine wp_loop_rounds 1 ?_
    rw [rounds_succ]
    go_wp2_with fail
    go_ret
    exact ⟨true, rfl, by simpa using HB.out, hT1⟩

theorem exprOk_atom (s : ByteArray) (w : World) (hs : s.size ≤ 9223372036854775807) :
    Calls Try.prog 13 #[.agg #[.int .i64 2, .int .i64 0, .string s, .slice none 0 0, .slice none 0 0]] w fun e w' => ∃ b : Bool, e = .returned (.bool b) ∧ (b = true ↔ AtomP s ∧ ¬ Wrd s) ∧ Below w.heap.size w w' := by
  obtain ⟨W, hW⟩ : ∃ W, W = w.alloc (.cells #[.int .i64 2, .int .i64 0, .string s, .slice none 0 0, .slice none 0 0] 27) := ⟨_, rfl⟩
  obtain ⟨V, hV⟩ : ∃ V, V = W.alloc (.cells #[.int .i64 300] 3) := ⟨_, rfl⟩
  have hA : Below w.heap.size w V := by rw [hV, hW]; exact ((Below.refl _ _).alloc (Nat.le_refl _) _).alloc (by simp) _
  have hWz : W.heap.size = w.heap.size + 1 := by rw [hW]; simp
  have hB1 : V.heap[W.heap.size]? = some (.cells #[.int .i64 300] 3 (0, 0)) := by rw [hV]; exact heap_alloc_new W _
  have hVz : V.heap.size = w.heap.size + 2 := by rw [hV]; simp [hWz]
  have hC := expressionFits_atom s W.heap.size V hs hB1
  rw [hWz] at hC
  rw [hV, hW] at hC
  have HV : Hid (V = _) := hV
  have HW : Hid (W = _) := hW
  clear hV hW hB1
  go_enter Try.func13, Try.ntmps13
  go_wp2_with fail
  refine hC.mono ?_
  clear hC
  rintro e w1 ⟨b, rfl, hb, hT⟩
  rw [← HW.out, ← HV.out] at hT
  have HBL : Hid (Below w.heap.size w w1) := hA.trans (hT.below (by omega) (by omega))
  have HB : Hid (b = true ↔ AtomP s ∧ ¬ Wrd s) := hb
  clear hb hT hA HW HV hWz hVz
  go_wp2_with fail
  go_ret
  exact ⟨b, rfl, HB.out, HBL.out⟩

end Go.Proofs.Ytpokheklplcamaa
