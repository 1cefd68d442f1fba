/- Two terms of the same fields: what the program's comparison of them comes to, part by part. -/
import Derived.Test.YtbllnmafilabpaaMOf2M
import Derived.Test.YtbllnmafilabpaaIOkM
import Derived.Test.YtbllnmafilabpaaIGet2M
import Derived.Deep.RegionWith
import Derived.Deep.QuietTactic
namespace Go.Proofs.Ytbllnmafilabpaa
open Go.RowKit
set_option linter.unusedVariables false

theorem bytesLess_self : ∀ l : List UInt8, Op.bytesLess l l = false := by
  intro l
  induction l with
  | nil => rfl
  | cons a l ih => simp [Op.bytesLess, ih]

theorem cmpInt_same (x : Int) (w : World) : Calls Try.prog 35 #[.int .i64 x, .int .i64 x] w fun e w' => e = .returned (.int .i64 0) ∧ w = w' := by
  go_enter Try.func35, Try.ntmps35
  go_wp2
  go_ret
  exact ⟨rfl, rfl⟩

theorem cmpStr_same (s : ByteArray) (w : World) : Calls Try.prog 55 #[.string s, .string s] w fun e w' => e = .returned (.int .i64 0) ∧ w = w' := by
  have h := bytesLess_self s.toList
  go_enter Try.func55, Try.ntmps55
  go_wp2
  go_ret
  exact ⟨rfl, rfl⟩

theorem cmpInt_same' (x : Int) (w : World) : Calls Try.prog 35 #[.int .i64 x, .int .i64 x] w fun e w' => e = .returned (.int .i64 0) ∧ w' = w := (cmpInt_same x w).mono fun e w' ⟨h1, h2⟩ => ⟨h1, h2.symm⟩

/-- What parts count of a term. -/
def partsV (k : Int) (v : Value) : Value := if k = 4 ∨ k = 5 then v else .slice none 0 0

set_option maxRecDepth 100000 in
set_option maxHeartbeats 2000000 in
theorem orderHeads_0 (n : Int) (s : ByteArray) (a1 a2 : Option Addr) (len c1 c2 : Nat) (w : World) :
    Calls Try.prog 36 #[.agg #[.int .i64 0, .int .i64 n, .string s, .slice a1 len c1], .agg #[.int .i64 0, .int .i64 n, .string s, .slice a2 len c2]] w fun e w' => e = .returned (.tuple #[.int .i64 0, partsV 0 (.slice a1 len c1), partsV 0 (.slice a2 len c2)]) ∧ Below w.heap.size w w' := by
  obtain ⟨W, hW⟩ : ∃ W, W = (w.alloc (.cells #[.int .i64 0, .int .i64 n, .string s, .slice a1 len c1] 26)).alloc (.cells #[.int .i64 0, .int .i64 n, .string s, .slice a2 len c2] 26) := ⟨_, rfl⟩
  have hA : Below w.heap.size w W := by rw [hW]; exact ((Below.refl _ _).alloc (Nat.le_refl _) _).alloc (by simp) _
  have hz : W.heap.size = w.heap.size + 1 + 1 := by rw [hW]; simp
  have n0 : W.heap[w.heap.size]? = some (.cells #[.int .i64 0, .int .i64 n, .string s, .slice a1 len c1] 26 (0, 0)) := by rw [hW]; exact (Below.heap_alloc _ _ _ (by simp)).trans (heap_alloc_new w _)
  have n1 : W.heap[w.heap.size + 1]? = some (.cells #[.int .i64 0, .int .i64 n, .string s, .slice a2 len c2] 26 (0, 0)) := by
    have := heap_alloc_new (w.alloc (.cells #[.int .i64 0, .int .i64 n, .string s, .slice a1 len c1] 26)) (.cells #[.int .i64 0, .int .i64 n, .string s, .slice a2 len c2] 26)
    rw [show (w.alloc (.cells #[.int .i64 0, .int .i64 n, .string s, .slice a1 len c1] 26)).heap.size = w.heap.size + 1 from by simp, ← hW] at this
    exact this
  have hF := formOf_any 0 n s a1 len c1 W
  have HCI : Hid (∀ (x : Int) (V : World), Calls Try.prog 35 #[.int .i64 x, .int .i64 x] V fun e w' => e = .returned (.int .i64 0) ∧ V = w') := fun x V => cmpInt_same x V
  have HCS : Hid (∀ (V : World), Calls Try.prog 55 #[.string s, .string s] V fun e w' => e = .returned (.int .i64 0) ∧ V = w') := fun V => cmpStr_same s V
  rw [hW] at hF
  have HW : Hid (W = _) := hW
  clear hW
  have hF : Calls Try.prog 18 #[.agg #[.int .i64 0, .int .i64 n, .string s, .slice a1 len c1]] ((w.alloc (.cells #[.int .i64 0, .int .i64 n, .string s, .slice a1 len c1] 26)).alloc (.cells #[.int .i64 0, .int .i64 n, .string s, .slice a2 len c2] 26)) fun e w' => e = .returned .nilIface ∧ Below ((w.alloc (.cells #[.int .i64 0, .int .i64 n, .string s, .slice a1 len c1] 26)).alloc (.cells #[.int .i64 0, .int .i64 n, .string s, .slice a2 len c2] 26)).heap.size ((w.alloc (.cells #[.int .i64 0, .int .i64 n, .string s, .slice a1 len c1] 26)).alloc (.cells #[.int .i64 0, .int .i64 n, .string s, .slice a2 len c2] 26)) w' := hF
  go_enter Try.func36, Try.ntmps36
  go_wp2_with fail
  refine hF.mono ?_
  clear hF
  rintro e w1 ⟨rfl, hb⟩
  rw [← HW.out] at hb
  have hbw : Below w.heap.size w w1 := hA.trans (hb.mono hA.size)
  have m0 := (hb.block _ (by omega)).trans n0
  have m1 := (hb.block _ (by omega)).trans n1
  have x1 : w1.cell? ⟨w.heap.size, 1, none⟩ = some (.int .i64 n) := by rw [cell_of_row w1 _ 1 _ _ _ m0]; rfl
  have x2 : w1.cell? ⟨w.heap.size, 2, none⟩ = some (.string s) := by rw [cell_of_row w1 _ 2 _ _ _ m0]; rfl
  have x3 : w1.cell? ⟨w.heap.size, 3, none⟩ = some (.slice a1 len c1) := by rw [cell_of_row w1 _ 3 _ _ _ m0]; rfl
  have y1 : w1.cell? ⟨w.heap.size + 1, 1, none⟩ = some (.int .i64 n) := by rw [cell_of_row w1 _ 1 _ _ _ m1]; rfl
  have y2 : w1.cell? ⟨w.heap.size + 1, 2, none⟩ = some (.string s) := by rw [cell_of_row w1 _ 2 _ _ _ m1]; rfl
  have y3 : w1.cell? ⟨w.heap.size + 1, 3, none⟩ = some (.slice a2 len c2) := by rw [cell_of_row w1 _ 3 _ _ _ m1]; rfl
  clear m0 m1 n0 n1 hb hA HW hz
  go_wp2_with fail
  refine bodyPost_ret (v := .tuple #[.int .i64 0, .slice none 0 0, .slice none 0 0]) (by first | (simp [results, Try.results36, go_sem]; done) | (simp [results, Try.results36, go_sem]; rfl)) rfl ⟨rfl, hbw⟩

set_option maxRecDepth 100000 in
set_option maxHeartbeats 2000000 in
theorem orderHeads_1 (n : Int) (s : ByteArray) (a1 a2 : Option Addr) (len c1 c2 : Nat) (w : World) :
    Calls Try.prog 36 #[.agg #[.int .i64 1, .int .i64 n, .string s, .slice a1 len c1], .agg #[.int .i64 1, .int .i64 n, .string s, .slice a2 len c2]] w fun e w' => e = .returned (.tuple #[.int .i64 0, partsV 1 (.slice a1 len c1), partsV 1 (.slice a2 len c2)]) ∧ Below w.heap.size w w' := by
  obtain ⟨W, hW⟩ : ∃ W, W = (w.alloc (.cells #[.int .i64 1, .int .i64 n, .string s, .slice a1 len c1] 26)).alloc (.cells #[.int .i64 1, .int .i64 n, .string s, .slice a2 len c2] 26) := ⟨_, rfl⟩
  have hA : Below w.heap.size w W := by rw [hW]; exact ((Below.refl _ _).alloc (Nat.le_refl _) _).alloc (by simp) _
  have hz : W.heap.size = w.heap.size + 1 + 1 := by rw [hW]; simp
  have n0 : W.heap[w.heap.size]? = some (.cells #[.int .i64 1, .int .i64 n, .string s, .slice a1 len c1] 26 (0, 0)) := by rw [hW]; exact (Below.heap_alloc _ _ _ (by simp)).trans (heap_alloc_new w _)
  have n1 : W.heap[w.heap.size + 1]? = some (.cells #[.int .i64 1, .int .i64 n, .string s, .slice a2 len c2] 26 (0, 0)) := by
    have := heap_alloc_new (w.alloc (.cells #[.int .i64 1, .int .i64 n, .string s, .slice a1 len c1] 26)) (.cells #[.int .i64 1, .int .i64 n, .string s, .slice a2 len c2] 26)
    rw [show (w.alloc (.cells #[.int .i64 1, .int .i64 n, .string s, .slice a1 len c1] 26)).heap.size = w.heap.size + 1 from by simp, ← hW] at this
    exact this
  have hF := formOf_any 1 n s a1 len c1 W
  have HCI : Hid (∀ (x : Int) (V : World), Calls Try.prog 35 #[.int .i64 x, .int .i64 x] V fun e w' => e = .returned (.int .i64 0) ∧ V = w') := fun x V => cmpInt_same x V
  have HCS : Hid (∀ (V : World), Calls Try.prog 55 #[.string s, .string s] V fun e w' => e = .returned (.int .i64 0) ∧ V = w') := fun V => cmpStr_same s V
  rw [hW] at hF
  have HW : Hid (W = _) := hW
  clear hW
  have hF : Calls Try.prog 18 #[.agg #[.int .i64 1, .int .i64 n, .string s, .slice a1 len c1]] ((w.alloc (.cells #[.int .i64 1, .int .i64 n, .string s, .slice a1 len c1] 26)).alloc (.cells #[.int .i64 1, .int .i64 n, .string s, .slice a2 len c2] 26)) fun e w' => e = .returned (.iface 59 (.int .i64 n)) ∧ Below ((w.alloc (.cells #[.int .i64 1, .int .i64 n, .string s, .slice a1 len c1] 26)).alloc (.cells #[.int .i64 1, .int .i64 n, .string s, .slice a2 len c2] 26)).heap.size ((w.alloc (.cells #[.int .i64 1, .int .i64 n, .string s, .slice a1 len c1] 26)).alloc (.cells #[.int .i64 1, .int .i64 n, .string s, .slice a2 len c2] 26)) w' := hF
  go_enter Try.func36, Try.ntmps36
  go_wp2_with fail
  refine hF.mono ?_
  clear hF
  rintro e w1 ⟨rfl, hb⟩
  rw [← HW.out] at hb
  have hbw : Below w.heap.size w w1 := hA.trans (hb.mono hA.size)
  have m0 := (hb.block _ (by omega)).trans n0
  have m1 := (hb.block _ (by omega)).trans n1
  have x1 : w1.cell? ⟨w.heap.size, 1, none⟩ = some (.int .i64 n) := by rw [cell_of_row w1 _ 1 _ _ _ m0]; rfl
  have x2 : w1.cell? ⟨w.heap.size, 2, none⟩ = some (.string s) := by rw [cell_of_row w1 _ 2 _ _ _ m0]; rfl
  have x3 : w1.cell? ⟨w.heap.size, 3, none⟩ = some (.slice a1 len c1) := by rw [cell_of_row w1 _ 3 _ _ _ m0]; rfl
  have y1 : w1.cell? ⟨w.heap.size + 1, 1, none⟩ = some (.int .i64 n) := by rw [cell_of_row w1 _ 1 _ _ _ m1]; rfl
  have y2 : w1.cell? ⟨w.heap.size + 1, 2, none⟩ = some (.string s) := by rw [cell_of_row w1 _ 2 _ _ _ m1]; rfl
  have y3 : w1.cell? ⟨w.heap.size + 1, 3, none⟩ = some (.slice a2 len c2) := by rw [cell_of_row w1 _ 3 _ _ _ m1]; rfl
  clear m0 m1 n0 n1 hb hA HW hz
  go_wp2_with fail
  refine (HCI.out _ _).mono ?_
  rintro e w2 ⟨rfl, rfl⟩
  go_wp2_with fail
  refine bodyPost_ret (v := .tuple #[.int .i64 0, .slice none 0 0, .slice none 0 0]) (by first | (simp [results, Try.results36, go_sem]; done) | (simp [results, Try.results36, go_sem]; rfl)) rfl ⟨rfl, hbw⟩

set_option maxRecDepth 100000 in
set_option maxHeartbeats 2000000 in
theorem orderHeads_2 (n : Int) (s : ByteArray) (a1 a2 : Option Addr) (len c1 c2 : Nat) (w : World) :
    Calls Try.prog 36 #[.agg #[.int .i64 2, .int .i64 n, .string s, .slice a1 len c1], .agg #[.int .i64 2, .int .i64 n, .string s, .slice a2 len c2]] w fun e w' => e = .returned (.tuple #[.int .i64 0, partsV 2 (.slice a1 len c1), partsV 2 (.slice a2 len c2)]) ∧ Below w.heap.size w w' := by
  obtain ⟨W, hW⟩ : ∃ W, W = (w.alloc (.cells #[.int .i64 2, .int .i64 n, .string s, .slice a1 len c1] 26)).alloc (.cells #[.int .i64 2, .int .i64 n, .string s, .slice a2 len c2] 26) := ⟨_, rfl⟩
  have hA : Below w.heap.size w W := by rw [hW]; exact ((Below.refl _ _).alloc (Nat.le_refl _) _).alloc (by simp) _
  have hz : W.heap.size = w.heap.size + 1 + 1 := by rw [hW]; simp
  have n0 : W.heap[w.heap.size]? = some (.cells #[.int .i64 2, .int .i64 n, .string s, .slice a1 len c1] 26 (0, 0)) := by rw [hW]; exact (Below.heap_alloc _ _ _ (by simp)).trans (heap_alloc_new w _)
  have n1 : W.heap[w.heap.size + 1]? = some (.cells #[.int .i64 2, .int .i64 n, .string s, .slice a2 len c2] 26 (0, 0)) := by
    have := heap_alloc_new (w.alloc (.cells #[.int .i64 2, .int .i64 n, .string s, .slice a1 len c1] 26)) (.cells #[.int .i64 2, .int .i64 n, .string s, .slice a2 len c2] 26)
    rw [show (w.alloc (.cells #[.int .i64 2, .int .i64 n, .string s, .slice a1 len c1] 26)).heap.size = w.heap.size + 1 from by simp, ← hW] at this
    exact this
  have hF := formOf_any 2 n s a1 len c1 W
  have HCI : Hid (∀ (x : Int) (V : World), Calls Try.prog 35 #[.int .i64 x, .int .i64 x] V fun e w' => e = .returned (.int .i64 0) ∧ V = w') := fun x V => cmpInt_same x V
  have HCS : Hid (∀ (V : World), Calls Try.prog 55 #[.string s, .string s] V fun e w' => e = .returned (.int .i64 0) ∧ V = w') := fun V => cmpStr_same s V
  rw [hW] at hF
  have HW : Hid (W = _) := hW
  clear hW
  have hF : Calls Try.prog 18 #[.agg #[.int .i64 2, .int .i64 n, .string s, .slice a1 len c1]] ((w.alloc (.cells #[.int .i64 2, .int .i64 n, .string s, .slice a1 len c1] 26)).alloc (.cells #[.int .i64 2, .int .i64 n, .string s, .slice a2 len c2] 26)) fun e w' => e = .returned (.iface 60 (.string s)) ∧ Below ((w.alloc (.cells #[.int .i64 2, .int .i64 n, .string s, .slice a1 len c1] 26)).alloc (.cells #[.int .i64 2, .int .i64 n, .string s, .slice a2 len c2] 26)).heap.size ((w.alloc (.cells #[.int .i64 2, .int .i64 n, .string s, .slice a1 len c1] 26)).alloc (.cells #[.int .i64 2, .int .i64 n, .string s, .slice a2 len c2] 26)) w' := hF
  go_enter Try.func36, Try.ntmps36
  go_wp2_with fail
  refine hF.mono ?_
  clear hF
  rintro e w1 ⟨rfl, hb⟩
  rw [← HW.out] at hb
  have hbw : Below w.heap.size w w1 := hA.trans (hb.mono hA.size)
  have m0 := (hb.block _ (by omega)).trans n0
  have m1 := (hb.block _ (by omega)).trans n1
  have x1 : w1.cell? ⟨w.heap.size, 1, none⟩ = some (.int .i64 n) := by rw [cell_of_row w1 _ 1 _ _ _ m0]; rfl
  have x2 : w1.cell? ⟨w.heap.size, 2, none⟩ = some (.string s) := by rw [cell_of_row w1 _ 2 _ _ _ m0]; rfl
  have x3 : w1.cell? ⟨w.heap.size, 3, none⟩ = some (.slice a1 len c1) := by rw [cell_of_row w1 _ 3 _ _ _ m0]; rfl
  have y1 : w1.cell? ⟨w.heap.size + 1, 1, none⟩ = some (.int .i64 n) := by rw [cell_of_row w1 _ 1 _ _ _ m1]; rfl
  have y2 : w1.cell? ⟨w.heap.size + 1, 2, none⟩ = some (.string s) := by rw [cell_of_row w1 _ 2 _ _ _ m1]; rfl
  have y3 : w1.cell? ⟨w.heap.size + 1, 3, none⟩ = some (.slice a2 len c2) := by rw [cell_of_row w1 _ 3 _ _ _ m1]; rfl
  clear m0 m1 n0 n1 hb hA HW hz
  go_wp2_with fail
  refine (HCS.out _).mono ?_
  rintro e w2 ⟨rfl, rfl⟩
  go_wp2_with fail
  refine bodyPost_ret (v := .tuple #[.int .i64 0, .slice none 0 0, .slice none 0 0]) (by first | (simp [results, Try.results36, go_sem]; done) | (simp [results, Try.results36, go_sem]; rfl)) rfl ⟨rfl, hbw⟩

set_option maxRecDepth 100000 in
set_option maxHeartbeats 2000000 in
theorem orderHeads_3 (n : Int) (s : ByteArray) (a1 a2 : Option Addr) (len c1 c2 : Nat) (w : World) :
    Calls Try.prog 36 #[.agg #[.int .i64 3, .int .i64 n, .string s, .slice a1 len c1], .agg #[.int .i64 3, .int .i64 n, .string s, .slice a2 len c2]] w fun e w' => e = .returned (.tuple #[.int .i64 0, partsV 3 (.slice a1 len c1), partsV 3 (.slice a2 len c2)]) ∧ Below w.heap.size w w' := by
  obtain ⟨W, hW⟩ : ∃ W, W = (w.alloc (.cells #[.int .i64 3, .int .i64 n, .string s, .slice a1 len c1] 26)).alloc (.cells #[.int .i64 3, .int .i64 n, .string s, .slice a2 len c2] 26) := ⟨_, rfl⟩
  have hA : Below w.heap.size w W := by rw [hW]; exact ((Below.refl _ _).alloc (Nat.le_refl _) _).alloc (by simp) _
  have hz : W.heap.size = w.heap.size + 1 + 1 := by rw [hW]; simp
  have n0 : W.heap[w.heap.size]? = some (.cells #[.int .i64 3, .int .i64 n, .string s, .slice a1 len c1] 26 (0, 0)) := by rw [hW]; exact (Below.heap_alloc _ _ _ (by simp)).trans (heap_alloc_new w _)
  have n1 : W.heap[w.heap.size + 1]? = some (.cells #[.int .i64 3, .int .i64 n, .string s, .slice a2 len c2] 26 (0, 0)) := by
    have := heap_alloc_new (w.alloc (.cells #[.int .i64 3, .int .i64 n, .string s, .slice a1 len c1] 26)) (.cells #[.int .i64 3, .int .i64 n, .string s, .slice a2 len c2] 26)
    rw [show (w.alloc (.cells #[.int .i64 3, .int .i64 n, .string s, .slice a1 len c1] 26)).heap.size = w.heap.size + 1 from by simp, ← hW] at this
    exact this
  have hF := formOf_any 3 n s a1 len c1 W
  have HCI : Hid (∀ (x : Int) (V : World), Calls Try.prog 35 #[.int .i64 x, .int .i64 x] V fun e w' => e = .returned (.int .i64 0) ∧ V = w') := fun x V => cmpInt_same x V
  have HCS : Hid (∀ (V : World), Calls Try.prog 55 #[.string s, .string s] V fun e w' => e = .returned (.int .i64 0) ∧ V = w') := fun V => cmpStr_same s V
  rw [hW] at hF
  have HW : Hid (W = _) := hW
  clear hW
  have hF : Calls Try.prog 18 #[.agg #[.int .i64 3, .int .i64 n, .string s, .slice a1 len c1]] ((w.alloc (.cells #[.int .i64 3, .int .i64 n, .string s, .slice a1 len c1] 26)).alloc (.cells #[.int .i64 3, .int .i64 n, .string s, .slice a2 len c2] 26)) fun e w' => e = .returned (.iface 62 (.int .i64 n)) ∧ Below ((w.alloc (.cells #[.int .i64 3, .int .i64 n, .string s, .slice a1 len c1] 26)).alloc (.cells #[.int .i64 3, .int .i64 n, .string s, .slice a2 len c2] 26)).heap.size ((w.alloc (.cells #[.int .i64 3, .int .i64 n, .string s, .slice a1 len c1] 26)).alloc (.cells #[.int .i64 3, .int .i64 n, .string s, .slice a2 len c2] 26)) w' := hF
  go_enter Try.func36, Try.ntmps36
  go_wp2_with fail
  refine hF.mono ?_
  clear hF
  rintro e w1 ⟨rfl, hb⟩
  rw [← HW.out] at hb
  have hbw : Below w.heap.size w w1 := hA.trans (hb.mono hA.size)
  have m0 := (hb.block _ (by omega)).trans n0
  have m1 := (hb.block _ (by omega)).trans n1
  have x1 : w1.cell? ⟨w.heap.size, 1, none⟩ = some (.int .i64 n) := by rw [cell_of_row w1 _ 1 _ _ _ m0]; rfl
  have x2 : w1.cell? ⟨w.heap.size, 2, none⟩ = some (.string s) := by rw [cell_of_row w1 _ 2 _ _ _ m0]; rfl
  have x3 : w1.cell? ⟨w.heap.size, 3, none⟩ = some (.slice a1 len c1) := by rw [cell_of_row w1 _ 3 _ _ _ m0]; rfl
  have y1 : w1.cell? ⟨w.heap.size + 1, 1, none⟩ = some (.int .i64 n) := by rw [cell_of_row w1 _ 1 _ _ _ m1]; rfl
  have y2 : w1.cell? ⟨w.heap.size + 1, 2, none⟩ = some (.string s) := by rw [cell_of_row w1 _ 2 _ _ _ m1]; rfl
  have y3 : w1.cell? ⟨w.heap.size + 1, 3, none⟩ = some (.slice a2 len c2) := by rw [cell_of_row w1 _ 3 _ _ _ m1]; rfl
  clear m0 m1 n0 n1 hb hA HW hz
  go_wp2_with fail
  refine (HCI.out _ _).mono ?_
  rintro e w2 ⟨rfl, rfl⟩
  go_wp2_with fail
  refine bodyPost_ret (v := .tuple #[.int .i64 0, .slice none 0 0, .slice none 0 0]) (by first | (simp [results, Try.results36, go_sem]; done) | (simp [results, Try.results36, go_sem]; rfl)) rfl ⟨rfl, hbw⟩

set_option maxRecDepth 100000 in
set_option maxHeartbeats 2000000 in
theorem orderHeads_4 (n : Int) (s : ByteArray) (a1 a2 : Option Addr) (len c1 c2 : Nat) (w : World) :
    Calls Try.prog 36 #[.agg #[.int .i64 4, .int .i64 n, .string s, .slice a1 len c1], .agg #[.int .i64 4, .int .i64 n, .string s, .slice a2 len c2]] w fun e w' => e = .returned (.tuple #[.int .i64 0, partsV 4 (.slice a1 len c1), partsV 4 (.slice a2 len c2)]) ∧ Below w.heap.size w w' := by
  obtain ⟨W, hW⟩ : ∃ W, W = (w.alloc (.cells #[.int .i64 4, .int .i64 n, .string s, .slice a1 len c1] 26)).alloc (.cells #[.int .i64 4, .int .i64 n, .string s, .slice a2 len c2] 26) := ⟨_, rfl⟩
  have hA : Below w.heap.size w W := by rw [hW]; exact ((Below.refl _ _).alloc (Nat.le_refl _) _).alloc (by simp) _
  have hz : W.heap.size = w.heap.size + 1 + 1 := by rw [hW]; simp
  have n0 : W.heap[w.heap.size]? = some (.cells #[.int .i64 4, .int .i64 n, .string s, .slice a1 len c1] 26 (0, 0)) := by rw [hW]; exact (Below.heap_alloc _ _ _ (by simp)).trans (heap_alloc_new w _)
  have n1 : W.heap[w.heap.size + 1]? = some (.cells #[.int .i64 4, .int .i64 n, .string s, .slice a2 len c2] 26 (0, 0)) := by
    have := heap_alloc_new (w.alloc (.cells #[.int .i64 4, .int .i64 n, .string s, .slice a1 len c1] 26)) (.cells #[.int .i64 4, .int .i64 n, .string s, .slice a2 len c2] 26)
    rw [show (w.alloc (.cells #[.int .i64 4, .int .i64 n, .string s, .slice a1 len c1] 26)).heap.size = w.heap.size + 1 from by simp, ← hW] at this
    exact this
  have hF := formOf_any 4 n s a1 len c1 W
  have HCI : Hid (∀ (x : Int) (V : World), Calls Try.prog 35 #[.int .i64 x, .int .i64 x] V fun e w' => e = .returned (.int .i64 0) ∧ V = w') := fun x V => cmpInt_same x V
  have HCS : Hid (∀ (V : World), Calls Try.prog 55 #[.string s, .string s] V fun e w' => e = .returned (.int .i64 0) ∧ V = w') := fun V => cmpStr_same s V
  rw [hW] at hF
  have HW : Hid (W = _) := hW
  clear hW
  have hF : Calls Try.prog 18 #[.agg #[.int .i64 4, .int .i64 n, .string s, .slice a1 len c1]] ((w.alloc (.cells #[.int .i64 4, .int .i64 n, .string s, .slice a1 len c1] 26)).alloc (.cells #[.int .i64 4, .int .i64 n, .string s, .slice a2 len c2] 26)) fun e w' => e = .returned (.iface 63 (.slice a1 len c1)) ∧ Below ((w.alloc (.cells #[.int .i64 4, .int .i64 n, .string s, .slice a1 len c1] 26)).alloc (.cells #[.int .i64 4, .int .i64 n, .string s, .slice a2 len c2] 26)).heap.size ((w.alloc (.cells #[.int .i64 4, .int .i64 n, .string s, .slice a1 len c1] 26)).alloc (.cells #[.int .i64 4, .int .i64 n, .string s, .slice a2 len c2] 26)) w' := hF
  go_enter Try.func36, Try.ntmps36
  go_wp2_with fail
  refine hF.mono ?_
  clear hF
  rintro e w1 ⟨rfl, hb⟩
  rw [← HW.out] at hb
  have hbw : Below w.heap.size w w1 := hA.trans (hb.mono hA.size)
  have m0 := (hb.block _ (by omega)).trans n0
  have m1 := (hb.block _ (by omega)).trans n1
  have x1 : w1.cell? ⟨w.heap.size, 1, none⟩ = some (.int .i64 n) := by rw [cell_of_row w1 _ 1 _ _ _ m0]; rfl
  have x2 : w1.cell? ⟨w.heap.size, 2, none⟩ = some (.string s) := by rw [cell_of_row w1 _ 2 _ _ _ m0]; rfl
  have x3 : w1.cell? ⟨w.heap.size, 3, none⟩ = some (.slice a1 len c1) := by rw [cell_of_row w1 _ 3 _ _ _ m0]; rfl
  have y1 : w1.cell? ⟨w.heap.size + 1, 1, none⟩ = some (.int .i64 n) := by rw [cell_of_row w1 _ 1 _ _ _ m1]; rfl
  have y2 : w1.cell? ⟨w.heap.size + 1, 2, none⟩ = some (.string s) := by rw [cell_of_row w1 _ 2 _ _ _ m1]; rfl
  have y3 : w1.cell? ⟨w.heap.size + 1, 3, none⟩ = some (.slice a2 len c2) := by rw [cell_of_row w1 _ 3 _ _ _ m1]; rfl
  clear m0 m1 n0 n1 hb hA HW hz
  go_wp2_with fail
  go_quiet (first | (go_at_call 35; refine Calls.quiet_of_same (cmpInt_same' _ _)))
  all_goals
    go_wp2_with fail
    refine bodyPost_ret (v := .tuple #[.int .i64 0, .slice a1 len c1, .slice a2 len c2]) (by first | (simp [results, Try.results36, go_sem]; done) | (simp [results, Try.results36, go_sem]; rfl)) rfl ⟨rfl, by first | exact below_drewN hbw _ | exact hbw.drew | exact hbw⟩

set_option maxRecDepth 100000 in
set_option maxHeartbeats 2000000 in
theorem orderHeads_5 (n : Int) (s : ByteArray) (a1 a2 : Option Addr) (len c1 c2 : Nat) (w : World) :
    Calls Try.prog 36 #[.agg #[.int .i64 5, .int .i64 n, .string s, .slice a1 len c1], .agg #[.int .i64 5, .int .i64 n, .string s, .slice a2 len c2]] w fun e w' => e = .returned (.tuple #[.int .i64 0, partsV 5 (.slice a1 len c1), partsV 5 (.slice a2 len c2)]) ∧ Below w.heap.size w w' := by
  obtain ⟨W, hW⟩ : ∃ W, W = (w.alloc (.cells #[.int .i64 5, .int .i64 n, .string s, .slice a1 len c1] 26)).alloc (.cells #[.int .i64 5, .int .i64 n, .string s, .slice a2 len c2] 26) := ⟨_, rfl⟩
  have hA : Below w.heap.size w W := by rw [hW]; exact ((Below.refl _ _).alloc (Nat.le_refl _) _).alloc (by simp) _
  have hz : W.heap.size = w.heap.size + 1 + 1 := by rw [hW]; simp
  have n0 : W.heap[w.heap.size]? = some (.cells #[.int .i64 5, .int .i64 n, .string s, .slice a1 len c1] 26 (0, 0)) := by rw [hW]; exact (Below.heap_alloc _ _ _ (by simp)).trans (heap_alloc_new w _)
  have n1 : W.heap[w.heap.size + 1]? = some (.cells #[.int .i64 5, .int .i64 n, .string s, .slice a2 len c2] 26 (0, 0)) := by
    have := heap_alloc_new (w.alloc (.cells #[.int .i64 5, .int .i64 n, .string s, .slice a1 len c1] 26)) (.cells #[.int .i64 5, .int .i64 n, .string s, .slice a2 len c2] 26)
    rw [show (w.alloc (.cells #[.int .i64 5, .int .i64 n, .string s, .slice a1 len c1] 26)).heap.size = w.heap.size + 1 from by simp, ← hW] at this
    exact this
  have hF := formOf_any 5 n s a1 len c1 W
  have HCI : Hid (∀ (x : Int) (V : World), Calls Try.prog 35 #[.int .i64 x, .int .i64 x] V fun e w' => e = .returned (.int .i64 0) ∧ V = w') := fun x V => cmpInt_same x V
  have HCS : Hid (∀ (V : World), Calls Try.prog 55 #[.string s, .string s] V fun e w' => e = .returned (.int .i64 0) ∧ V = w') := fun V => cmpStr_same s V
  rw [hW] at hF
  have HW : Hid (W = _) := hW
  clear hW
  have hF : Calls Try.prog 18 #[.agg #[.int .i64 5, .int .i64 n, .string s, .slice a1 len c1]] ((w.alloc (.cells #[.int .i64 5, .int .i64 n, .string s, .slice a1 len c1] 26)).alloc (.cells #[.int .i64 5, .int .i64 n, .string s, .slice a2 len c2] 26)) fun e w' => e = .returned (.iface 65 (.slice a1 len c1)) ∧ Below ((w.alloc (.cells #[.int .i64 5, .int .i64 n, .string s, .slice a1 len c1] 26)).alloc (.cells #[.int .i64 5, .int .i64 n, .string s, .slice a2 len c2] 26)).heap.size ((w.alloc (.cells #[.int .i64 5, .int .i64 n, .string s, .slice a1 len c1] 26)).alloc (.cells #[.int .i64 5, .int .i64 n, .string s, .slice a2 len c2] 26)) w' := hF
  go_enter Try.func36, Try.ntmps36
  go_wp2_with fail
  refine hF.mono ?_
  clear hF
  rintro e w1 ⟨rfl, hb⟩
  rw [← HW.out] at hb
  have hbw : Below w.heap.size w w1 := hA.trans (hb.mono hA.size)
  have m0 := (hb.block _ (by omega)).trans n0
  have m1 := (hb.block _ (by omega)).trans n1
  have x1 : w1.cell? ⟨w.heap.size, 1, none⟩ = some (.int .i64 n) := by rw [cell_of_row w1 _ 1 _ _ _ m0]; rfl
  have x2 : w1.cell? ⟨w.heap.size, 2, none⟩ = some (.string s) := by rw [cell_of_row w1 _ 2 _ _ _ m0]; rfl
  have x3 : w1.cell? ⟨w.heap.size, 3, none⟩ = some (.slice a1 len c1) := by rw [cell_of_row w1 _ 3 _ _ _ m0]; rfl
  have y1 : w1.cell? ⟨w.heap.size + 1, 1, none⟩ = some (.int .i64 n) := by rw [cell_of_row w1 _ 1 _ _ _ m1]; rfl
  have y2 : w1.cell? ⟨w.heap.size + 1, 2, none⟩ = some (.string s) := by rw [cell_of_row w1 _ 2 _ _ _ m1]; rfl
  have y3 : w1.cell? ⟨w.heap.size + 1, 3, none⟩ = some (.slice a2 len c2) := by rw [cell_of_row w1 _ 3 _ _ _ m1]; rfl
  clear m0 m1 n0 n1 hb hA HW hz
  go_wp2_with fail
  go_quiet (fail)
  all_goals
    go_wp2_with fail
    refine bodyPost_ret (v := .tuple #[.int .i64 0, .slice a1 len c1, .slice a2 len c2]) (by first | (simp [results, Try.results36, go_sem]; done) | (simp [results, Try.results36, go_sem]; rfl)) rfl ⟨rfl, by first | exact below_drewN hbw _ | exact hbw.drew | exact hbw⟩


theorem orderHeads_same (k n : Int) (s : ByteArray) (a1 a2 : Option Addr) (len c1 c2 : Nat) (w : World) (hk : k = 0 ∨ k = 1 ∨ k = 2 ∨ k = 3 ∨ k = 4 ∨ k = 5) :
    Calls Try.prog 36 #[.agg #[.int .i64 k, .int .i64 n, .string s, .slice a1 len c1], .agg #[.int .i64 k, .int .i64 n, .string s, .slice a2 len c2]] w fun e w' => e = .returned (.tuple #[.int .i64 0, partsV k (.slice a1 len c1), partsV k (.slice a2 len c2)]) ∧ Below w.heap.size w w' := by
  rcases hk with rfl | rfl | rfl | rfl | rfl | rfl
  · exact orderHeads_0 n s a1 a2 len c1 c2 w
  · exact orderHeads_1 n s a1 a2 len c1 c2 w
  · exact orderHeads_2 n s a1 a2 len c1 c2 w
  · exact orderHeads_3 n s a1 a2 len c1 c2 w
  · exact orderHeads_4 n s a1 a2 len c1 c2 w
  · exact orderHeads_5 n s a1 a2 len c1 c2 w

/-- While few have been met nothing is kept. -/
theorem join_few (p : Nat) (m : Nat) (v1 v2 : Value) (x1 x2 : Option Addr) (n1 n2 : Int) (w : World) (hh : w.heap[p]? = some (.cells #[.int .i64 m, v1, v2] 72 (0, 0))) (hm : m < 300) :
    Calls Try.prog 56 #[.pointer (some ⟨p, 0, none⟩), .agg #[.pointer x1, .int .i64 n1], .agg #[.pointer x2, .int .i64 n2]] w fun e w' => e = .returned (.bool false) ∧ w'.heap[p]? = some (.cells #[.int .i64 (m + 1 : Nat), v1, v2] 72 (0, 0)) ∧ Turned p w w' := by
  have hpz : p < w.heap.size := Nat.lt_of_not_le fun h => by rw [Array.getElem?_eq_none h] at hh; cases hh
  have c0 : w.cell? ⟨p, 0, none⟩ = some (.int .i64 m) := by rw [cell_of_row w _ 0 _ _ _ hh]; rfl
  have z0 : w.frozen? ⟨p, 0, none⟩ = false := frozen_of_row w _ _ _ _ hh
  have HF : Hid (∀ Z, Below w.heap.size (w.setCell ⟨p, 0, none⟩ (.int .i64 ((m : Int) + 1))) Z → Z.heap[p]? = some (.cells #[.int .i64 (m + 1 : Nat), v1, v2] 72 (0, 0)) ∧ Turned p w Z) := fun Z hZ => by
    refine ⟨?_, (Turned.of_set w p 0 _).trans (Turned.of_below (by simpa using hZ))⟩
    rw [hZ.block p hpz, heap_setCell_same w p 0 _ _ _ hh]
    rfl
  have hle : (m : Int) + 1 ≤ 300 := by omega
  go_enter Try.func56, Try.ntmps56
  go_wp2_with fail
  go_ret
  exact ⟨rfl, HF.out _ (((Below.refl _ _).alloc (by simp) _).alloc (by simp) _)⟩

/-- Two lists of one length, while few have been met. -/
theorem taken_few (p : Nat) (m : Nat) (v1 v2 : Value) (b1 o1 b2 o2 len c1 c2 : Nat) (w : World) (hh : w.heap[p]? = some (.cells #[.int .i64 m, v1, v2] 72 (0, 0))) (hm : m < 300) (hl : 0 < len) (hl1 : len ≤ 9223372036854775807) :
    Calls Try.prog 37 #[.pointer (some ⟨p, 0, none⟩), .slice (some ⟨b1, o1, none⟩) len c1, .slice (some ⟨b2, o2, none⟩) len c2] w fun e w' => e = .returned (.bool false) ∧ w'.heap[p]? = some (.cells #[.int .i64 (m + 1 : Nat), v1, v2] 72 (0, 0)) ∧ Turned p w w' := by
  have HS1 : Hid (∀ W : World, Calls Try.prog 57 #[.slice (some ⟨b1, o1, none⟩) len c1] W fun e w' => e = .returned (.agg #[.pointer (some ⟨b1, o1, none⟩), .int .i64 len]) ∧ Below W.heap.size W w') := fun W => spotOf_any b1 o1 len c1 W hl hl1
  have HS2 : Hid (∀ W : World, Calls Try.prog 57 #[.slice (some ⟨b2, o2, none⟩) len c2] W fun e w' => e = .returned (.agg #[.pointer (some ⟨b2, o2, none⟩), .int .i64 len]) ∧ Below W.heap.size W w') := fun W => spotOf_any b2 o2 len c2 W hl hl1
  have HJ : Hid (∀ W : World, Below w.heap.size w W → Calls Try.prog 56 #[.pointer (some ⟨p, 0, none⟩), .agg #[.pointer (some ⟨b1, o1, none⟩), .int .i64 len], .agg #[.pointer (some ⟨b2, o2, none⟩), .int .i64 len]] W fun e w' => e = .returned (.bool false) ∧ w'.heap[p]? = some (.cells #[.int .i64 (m + 1 : Nat), v1, v2] 72 (0, 0)) ∧ Turned p W w') := fun W hW => join_few p m v1 v2 _ _ len len W ((hW.block p (lt_of_row' hh)).trans hh) hm
  clear hh
  go_enter Try.func37, Try.ntmps37
  go_wp2_with fail
  refine (HS1.out _).mono ?_
  rintro e w1 ⟨rfl, hb1⟩
  go_wp2_with fail
  refine (HS2.out _).mono ?_
  rintro e w2 ⟨rfl, hb2⟩
  have hb : Below w.heap.size w w2 := hb1.trans (hb2.mono hb1.size)
  go_wp2_with fail
  refine (HJ.out _ hb).mono ?_
  rintro e w3 ⟨rfl, h3, hT3⟩
  have HF : Hid (w3.heap[p]? = some (.cells #[.int .i64 (m + 1 : Nat), v1, v2] 72 (0, 0)) ∧ Turned p w w3) := ⟨h3, (Turned.of_below hb).trans hT3⟩
  clear h3 hT3 hb hb1 hb2
  go_wp2_with fail
  go_ret
  exact ⟨rfl, HF.out⟩

theorem taken_none (p : Nat) (a1 a2 : Option Addr) (c1 c2 : Nat) (w : World) : Calls Try.prog 37 #[.pointer (some ⟨p, 0, none⟩), .slice a1 0 c1, .slice a2 0 c2] w fun e w' => e = .returned (.bool true) ∧ w = w' := by
  go_enter Try.func37, Try.ntmps37
  go_wp2_with fail
  go_ret
  exact ⟨rfl, rfl⟩

end Go.Proofs.Ytbllnmafilabpaa
