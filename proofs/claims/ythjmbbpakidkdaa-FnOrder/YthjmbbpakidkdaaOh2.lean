/- The heads of two terms: what the program's comparison of them comes to. -/
import Derived.Test.YthjmbbpakidkdaaOrd
namespace Go.Proofs.Ythjmbbpakidkdaa
open Go.RowKit
set_option linter.unusedVariables false

theorem cmpInt_any (x y : Int) (w : World) : Calls Try.prog 125 #[.int .i64 x, .int .i64 y] w fun e w' => e = .returned (.int .i64 (cmpI x y)) ∧ w = w' := by
  rcases Int.lt_trichotomy x y with h | h | h
  · have e : cmpI x y = -1 := by unfold cmpI; rw [if_pos h]
    rw [e]
    go_enter Try.func125, Try.ntmps125
    go_wp2
    go_ret
    exact ⟨rfl, rfl⟩
  · subst h
    have e : cmpI x x = 0 := cmpI_zero.2 rfl
    rw [e]
    exact cmpInt_same x w
  · have e : cmpI x y = 1 := by unfold cmpI; rw [if_neg (by omega), if_pos h]
    have h' : ¬ x < y := by omega
    rw [e]
    go_enter Try.func125, Try.ntmps125
    go_wp2
    go_ret
    exact ⟨rfl, rfl⟩

theorem cmpStr_any (x y : ByteArray) (w : World) : Calls Try.prog 176 #[.string x, .string y] w fun e w' => e = .returned (.int .i64 (cmpB x y)) ∧ w = w' := by
  by_cases h : Op.bytesLess x.toList y.toList = true
  · have e : cmpB x y = -1 := by unfold cmpB; rw [if_pos h]
    rw [e]
    go_enter Try.func176, Try.ntmps176
    go_wp2
    go_ret
    exact ⟨rfl, rfl⟩
  · have h0 : Op.bytesLess x.toList y.toList = false := by simpa using h
    by_cases hxy : x = y
    · subst hxy
      have e : cmpB x x = 0 := cmpB_zero.2 rfl
      rw [e]
      exact cmpStr_same x w
    · have h2 : Op.bytesLess y.toList x.toList = true := by
        rcases bl_tri x.toList y.toList (fun e => hxy (toList_inj e)) with h3 | h3
        · exact absurd h3 h
        · exact h3
      have e : cmpB x y = 1 := by unfold cmpB; rw [if_neg h, if_pos h2]
      have hq : (x.toList == y.toList) = false := by simpa using fun e => hxy (toList_inj e)
      rw [e]
      clear h
      go_enter Try.func176, Try.ntmps176
      go_wp2
      go_ret
      exact ⟨rfl, rfl⟩

theorem cmpInt_any' (x y : Int) (w : World) : Calls Try.prog 125 #[.int .i64 x, .int .i64 y] w fun e w' => e = .returned (.int .i64 (cmpI x y)) ∧ w' = w := (cmpInt_any x y w).mono fun e w' ⟨h1, h2⟩ => ⟨h1, h2.symm⟩

set_option maxRecDepth 100000 in
set_option maxHeartbeats 2000000 in
theorem heads_unlike (k n : Int) (s : ByteArray) (a1 : Option Addr) (len c1 : Nat) (k2 n2 : Int) (s2 : ByteArray) (a2 : Option Addr) (len2 c2 : Nat) (w : World) (hne : k ≠ k2) :
    Calls Try.prog 126 #[.agg #[.int .i64 k, .int .i64 n, .string s, .slice a1 len c1], .agg #[.int .i64 k2, .int .i64 n2, .string s2, .slice a2 len2 c2]] w fun e w' => e = .returned (.tuple #[.int .i64 (cmpI k k2), .slice none 0 0, .slice none 0 0]) ∧ Below w.heap.size w w' := by
  have HCI : Hid (∀ (V : World), Calls Try.prog 125 #[.int .i64 k, .int .i64 k2] V fun e w' => e = .returned (.int .i64 (cmpI k k2)) ∧ V = w') := fun V => cmpInt_any k k2 V
  have hbw : Below w.heap.size w ((w.alloc (.cells #[.int .i64 k, .int .i64 n, .string s, .slice a1 len c1] 26)).alloc (.cells #[.int .i64 k2, .int .i64 n2, .string s2, .slice a2 len2 c2] 26)) := ((Below.refl _ _).alloc (Nat.le_refl _) _).alloc (by simp) _
  go_enter Try.func126, Try.ntmps126
  go_wp2_with fail
  refine (HCI.out _).mono ?_
  rintro e w2 ⟨rfl, rfl⟩
  go_wp2_with fail
  refine bodyPost_ret (v := .tuple #[.int .i64 (cmpI k k2), .slice none 0 0, .slice none 0 0]) (by first | (simp [results, Try.results126, go_sem]; done) | (simp [results, Try.results126, go_sem]; rfl)) rfl ⟨rfl, hbw⟩

set_option maxRecDepth 100000 in
set_option maxHeartbeats 2000000 in
theorem heads_1 (n n2 : Int) (s s2 : ByteArray) (a1 a2 : Option Addr) (len len2 c1 c2 : Nat) (w : World) :
    Calls Try.prog 126 #[.agg #[.int .i64 1, .int .i64 n, .string s, .slice a1 len c1], .agg #[.int .i64 1, .int .i64 n2, .string s2, .slice a2 len2 c2]] w fun e w' => e = .returned (.tuple #[.int .i64 (cmpI n n2), .slice none 0 0, .slice none 0 0]) ∧ Below w.heap.size w w' := by
  obtain ⟨W, hW⟩ : ∃ W, W = (w.alloc (.cells #[.int .i64 1, .int .i64 n, .string s, .slice a1 len c1] 26)).alloc (.cells #[.int .i64 1, .int .i64 n2, .string s2, .slice a2 len2 c2] 26) := ⟨_, rfl⟩
  have hA : Below w.heap.size w W := by rw [hW]; exact ((Below.refl _ _).alloc (Nat.le_refl _) _).alloc (by simp) _
  have hz : W.heap.size = w.heap.size + 1 + 1 := by rw [hW]; simp
  have n0 : W.heap[w.heap.size]? = some (.cells #[.int .i64 1, .int .i64 n, .string s, .slice a1 len c1] 26 (0, 0)) := by rw [hW]; exact (Below.heap_alloc _ _ _ (by simp)).trans (heap_alloc_new w _)
  have n1 : W.heap[w.heap.size + 1]? = some (.cells #[.int .i64 1, .int .i64 n2, .string s2, .slice a2 len2 c2] 26 (0, 0)) := by
    have := heap_alloc_new (w.alloc (.cells #[.int .i64 1, .int .i64 n, .string s, .slice a1 len c1] 26)) (.cells #[.int .i64 1, .int .i64 n2, .string s2, .slice a2 len2 c2] 26)
    rw [show (w.alloc (.cells #[.int .i64 1, .int .i64 n, .string s, .slice a1 len c1] 26)).heap.size = w.heap.size + 1 from by simp, ← hW] at this
    exact this
  have hF := formOf_any 1 n s a1 len c1 W
  have HCI : Hid (∀ (x y : Int) (V : World), Calls Try.prog 125 #[.int .i64 x, .int .i64 y] V fun e w' => e = .returned (.int .i64 (cmpI x y)) ∧ V = w') := fun x y V => cmpInt_any x y V
  have HCS : Hid (∀ (V : World), Calls Try.prog 176 #[.string s, .string s2] V fun e w' => e = .returned (.int .i64 (cmpB s s2)) ∧ V = w') := fun V => cmpStr_any s s2 V
  rw [hW] at hF
  have HW : Hid (W = _) := hW
  clear hW
  have hF : Calls Try.prog 70 #[.agg #[.int .i64 1, .int .i64 n, .string s, .slice a1 len c1]] ((w.alloc (.cells #[.int .i64 1, .int .i64 n, .string s, .slice a1 len c1] 26)).alloc (.cells #[.int .i64 1, .int .i64 n2, .string s2, .slice a2 len2 c2] 26)) fun e w' => e = .returned (.iface 149 (.int .i64 n)) ∧ Below ((w.alloc (.cells #[.int .i64 1, .int .i64 n, .string s, .slice a1 len c1] 26)).alloc (.cells #[.int .i64 1, .int .i64 n2, .string s2, .slice a2 len2 c2] 26)).heap.size ((w.alloc (.cells #[.int .i64 1, .int .i64 n, .string s, .slice a1 len c1] 26)).alloc (.cells #[.int .i64 1, .int .i64 n2, .string s2, .slice a2 len2 c2] 26)) w' := hF
  go_enter Try.func126, Try.ntmps126
  go_wp2_with fail
  refine hF.mono ?_
  clear hF
  rintro e w1 ⟨rfl, hb⟩
  rw [← HW.out] at hb
  have hbw : Below w.heap.size w w1 := hA.trans (hb.mono hA.size)
  have m0 := (hb.block _ (by omega)).trans n0
  have m1 := (hb.block _ (by omega)).trans n1
  have x1 : w1.cell? ⟨w.heap.size, 1, none⟩ = some (.int .i64 n) := by rw [cell_of_row w1 _ 1 _ _ _ m0]; rfl
  have x2 : w1.cell? ⟨w.heap.size, 2, none⟩ = some (.string s) := by rw [cell_of_row w1 _ 2 _ _ _ m0]; rfl
  have x3 : w1.cell? ⟨w.heap.size, 3, none⟩ = some (.slice a1 len c1) := by rw [cell_of_row w1 _ 3 _ _ _ m0]; rfl
  have y1 : w1.cell? ⟨w.heap.size + 1, 1, none⟩ = some (.int .i64 n2) := by rw [cell_of_row w1 _ 1 _ _ _ m1]; rfl
  have y2 : w1.cell? ⟨w.heap.size + 1, 2, none⟩ = some (.string s2) := by rw [cell_of_row w1 _ 2 _ _ _ m1]; rfl
  have y3 : w1.cell? ⟨w.heap.size + 1, 3, none⟩ = some (.slice a2 len2 c2) := by rw [cell_of_row w1 _ 3 _ _ _ m1]; rfl
  clear m0 m1 n0 n1 hb hA HW hz
  go_wp2_with fail
  refine (HCI.out _ _ _).mono ?_
  rintro e w2 ⟨rfl, rfl⟩
  go_wp2_with fail
  refine bodyPost_ret (v := .tuple #[.int .i64 (cmpI n n2), .slice none 0 0, .slice none 0 0]) (by first | (simp [results, Try.results126, go_sem]; done) | (simp [results, Try.results126, go_sem]; rfl)) rfl ⟨rfl, hbw⟩

set_option maxRecDepth 100000 in
set_option maxHeartbeats 2000000 in
theorem heads_2 (n n2 : Int) (s s2 : ByteArray) (a1 a2 : Option Addr) (len len2 c1 c2 : Nat) (w : World) :
    Calls Try.prog 126 #[.agg #[.int .i64 2, .int .i64 n, .string s, .slice a1 len c1], .agg #[.int .i64 2, .int .i64 n2, .string s2, .slice a2 len2 c2]] w fun e w' => e = .returned (.tuple #[.int .i64 (cmpB s s2), .slice none 0 0, .slice none 0 0]) ∧ Below w.heap.size w w' := by
  obtain ⟨W, hW⟩ : ∃ W, W = (w.alloc (.cells #[.int .i64 2, .int .i64 n, .string s, .slice a1 len c1] 26)).alloc (.cells #[.int .i64 2, .int .i64 n2, .string s2, .slice a2 len2 c2] 26) := ⟨_, rfl⟩
  have hA : Below w.heap.size w W := by rw [hW]; exact ((Below.refl _ _).alloc (Nat.le_refl _) _).alloc (by simp) _
  have hz : W.heap.size = w.heap.size + 1 + 1 := by rw [hW]; simp
  have n0 : W.heap[w.heap.size]? = some (.cells #[.int .i64 2, .int .i64 n, .string s, .slice a1 len c1] 26 (0, 0)) := by rw [hW]; exact (Below.heap_alloc _ _ _ (by simp)).trans (heap_alloc_new w _)
  have n1 : W.heap[w.heap.size + 1]? = some (.cells #[.int .i64 2, .int .i64 n2, .string s2, .slice a2 len2 c2] 26 (0, 0)) := by
    have := heap_alloc_new (w.alloc (.cells #[.int .i64 2, .int .i64 n, .string s, .slice a1 len c1] 26)) (.cells #[.int .i64 2, .int .i64 n2, .string s2, .slice a2 len2 c2] 26)
    rw [show (w.alloc (.cells #[.int .i64 2, .int .i64 n, .string s, .slice a1 len c1] 26)).heap.size = w.heap.size + 1 from by simp, ← hW] at this
    exact this
  have hF := formOf_any 2 n s a1 len c1 W
  have HCI : Hid (∀ (x y : Int) (V : World), Calls Try.prog 125 #[.int .i64 x, .int .i64 y] V fun e w' => e = .returned (.int .i64 (cmpI x y)) ∧ V = w') := fun x y V => cmpInt_any x y V
  have HCS : Hid (∀ (V : World), Calls Try.prog 176 #[.string s, .string s2] V fun e w' => e = .returned (.int .i64 (cmpB s s2)) ∧ V = w') := fun V => cmpStr_any s s2 V
  rw [hW] at hF
  have HW : Hid (W = _) := hW
  clear hW
  have hF : Calls Try.prog 70 #[.agg #[.int .i64 2, .int .i64 n, .string s, .slice a1 len c1]] ((w.alloc (.cells #[.int .i64 2, .int .i64 n, .string s, .slice a1 len c1] 26)).alloc (.cells #[.int .i64 2, .int .i64 n2, .string s2, .slice a2 len2 c2] 26)) fun e w' => e = .returned (.iface 150 (.string s)) ∧ Below ((w.alloc (.cells #[.int .i64 2, .int .i64 n, .string s, .slice a1 len c1] 26)).alloc (.cells #[.int .i64 2, .int .i64 n2, .string s2, .slice a2 len2 c2] 26)).heap.size ((w.alloc (.cells #[.int .i64 2, .int .i64 n, .string s, .slice a1 len c1] 26)).alloc (.cells #[.int .i64 2, .int .i64 n2, .string s2, .slice a2 len2 c2] 26)) w' := hF
  go_enter Try.func126, Try.ntmps126
  go_wp2_with fail
  refine hF.mono ?_
  clear hF
  rintro e w1 ⟨rfl, hb⟩
  rw [← HW.out] at hb
  have hbw : Below w.heap.size w w1 := hA.trans (hb.mono hA.size)
  have m0 := (hb.block _ (by omega)).trans n0
  have m1 := (hb.block _ (by omega)).trans n1
  have x1 : w1.cell? ⟨w.heap.size, 1, none⟩ = some (.int .i64 n) := by rw [cell_of_row w1 _ 1 _ _ _ m0]; rfl
  have x2 : w1.cell? ⟨w.heap.size, 2, none⟩ = some (.string s) := by rw [cell_of_row w1 _ 2 _ _ _ m0]; rfl
  have x3 : w1.cell? ⟨w.heap.size, 3, none⟩ = some (.slice a1 len c1) := by rw [cell_of_row w1 _ 3 _ _ _ m0]; rfl
  have y1 : w1.cell? ⟨w.heap.size + 1, 1, none⟩ = some (.int .i64 n2) := by rw [cell_of_row w1 _ 1 _ _ _ m1]; rfl
  have y2 : w1.cell? ⟨w.heap.size + 1, 2, none⟩ = some (.string s2) := by rw [cell_of_row w1 _ 2 _ _ _ m1]; rfl
  have y3 : w1.cell? ⟨w.heap.size + 1, 3, none⟩ = some (.slice a2 len2 c2) := by rw [cell_of_row w1 _ 3 _ _ _ m1]; rfl
  clear m0 m1 n0 n1 hb hA HW hz
  go_wp2_with fail
  refine (HCS.out _).mono ?_
  rintro e w2 ⟨rfl, rfl⟩
  go_wp2_with fail
  refine bodyPost_ret (v := .tuple #[.int .i64 (cmpB s s2), .slice none 0 0, .slice none 0 0]) (by first | (simp [results, Try.results126, go_sem]; done) | (simp [results, Try.results126, go_sem]; rfl)) rfl ⟨rfl, hbw⟩

set_option maxRecDepth 100000 in
set_option maxHeartbeats 2000000 in
theorem heads_3 (n n2 : Int) (s s2 : ByteArray) (a1 a2 : Option Addr) (len len2 c1 c2 : Nat) (w : World) :
    Calls Try.prog 126 #[.agg #[.int .i64 3, .int .i64 n, .string s, .slice a1 len c1], .agg #[.int .i64 3, .int .i64 n2, .string s2, .slice a2 len2 c2]] w fun e w' => e = .returned (.tuple #[.int .i64 (cmpI n n2), .slice none 0 0, .slice none 0 0]) ∧ Below w.heap.size w w' := by
  obtain ⟨W, hW⟩ : ∃ W, W = (w.alloc (.cells #[.int .i64 3, .int .i64 n, .string s, .slice a1 len c1] 26)).alloc (.cells #[.int .i64 3, .int .i64 n2, .string s2, .slice a2 len2 c2] 26) := ⟨_, rfl⟩
  have hA : Below w.heap.size w W := by rw [hW]; exact ((Below.refl _ _).alloc (Nat.le_refl _) _).alloc (by simp) _
  have hz : W.heap.size = w.heap.size + 1 + 1 := by rw [hW]; simp
  have n0 : W.heap[w.heap.size]? = some (.cells #[.int .i64 3, .int .i64 n, .string s, .slice a1 len c1] 26 (0, 0)) := by rw [hW]; exact (Below.heap_alloc _ _ _ (by simp)).trans (heap_alloc_new w _)
  have n1 : W.heap[w.heap.size + 1]? = some (.cells #[.int .i64 3, .int .i64 n2, .string s2, .slice a2 len2 c2] 26 (0, 0)) := by
    have := heap_alloc_new (w.alloc (.cells #[.int .i64 3, .int .i64 n, .string s, .slice a1 len c1] 26)) (.cells #[.int .i64 3, .int .i64 n2, .string s2, .slice a2 len2 c2] 26)
    rw [show (w.alloc (.cells #[.int .i64 3, .int .i64 n, .string s, .slice a1 len c1] 26)).heap.size = w.heap.size + 1 from by simp, ← hW] at this
    exact this
  have hF := formOf_any 3 n s a1 len c1 W
  have HCI : Hid (∀ (x y : Int) (V : World), Calls Try.prog 125 #[.int .i64 x, .int .i64 y] V fun e w' => e = .returned (.int .i64 (cmpI x y)) ∧ V = w') := fun x y V => cmpInt_any x y V
  have HCS : Hid (∀ (V : World), Calls Try.prog 176 #[.string s, .string s2] V fun e w' => e = .returned (.int .i64 (cmpB s s2)) ∧ V = w') := fun V => cmpStr_any s s2 V
  rw [hW] at hF
  have HW : Hid (W = _) := hW
  clear hW
  have hF : Calls Try.prog 70 #[.agg #[.int .i64 3, .int .i64 n, .string s, .slice a1 len c1]] ((w.alloc (.cells #[.int .i64 3, .int .i64 n, .string s, .slice a1 len c1] 26)).alloc (.cells #[.int .i64 3, .int .i64 n2, .string s2, .slice a2 len2 c2] 26)) fun e w' => e = .returned (.iface 152 (.int .i64 n)) ∧ Below ((w.alloc (.cells #[.int .i64 3, .int .i64 n, .string s, .slice a1 len c1] 26)).alloc (.cells #[.int .i64 3, .int .i64 n2, .string s2, .slice a2 len2 c2] 26)).heap.size ((w.alloc (.cells #[.int .i64 3, .int .i64 n, .string s, .slice a1 len c1] 26)).alloc (.cells #[.int .i64 3, .int .i64 n2, .string s2, .slice a2 len2 c2] 26)) w' := hF
  go_enter Try.func126, Try.ntmps126
  go_wp2_with fail
  refine hF.mono ?_
  clear hF
  rintro e w1 ⟨rfl, hb⟩
  rw [← HW.out] at hb
  have hbw : Below w.heap.size w w1 := hA.trans (hb.mono hA.size)
  have m0 := (hb.block _ (by omega)).trans n0
  have m1 := (hb.block _ (by omega)).trans n1
  have x1 : w1.cell? ⟨w.heap.size, 1, none⟩ = some (.int .i64 n) := by rw [cell_of_row w1 _ 1 _ _ _ m0]; rfl
  have x2 : w1.cell? ⟨w.heap.size, 2, none⟩ = some (.string s) := by rw [cell_of_row w1 _ 2 _ _ _ m0]; rfl
  have x3 : w1.cell? ⟨w.heap.size, 3, none⟩ = some (.slice a1 len c1) := by rw [cell_of_row w1 _ 3 _ _ _ m0]; rfl
  have y1 : w1.cell? ⟨w.heap.size + 1, 1, none⟩ = some (.int .i64 n2) := by rw [cell_of_row w1 _ 1 _ _ _ m1]; rfl
  have y2 : w1.cell? ⟨w.heap.size + 1, 2, none⟩ = some (.string s2) := by rw [cell_of_row w1 _ 2 _ _ _ m1]; rfl
  have y3 : w1.cell? ⟨w.heap.size + 1, 3, none⟩ = some (.slice a2 len2 c2) := by rw [cell_of_row w1 _ 3 _ _ _ m1]; rfl
  clear m0 m1 n0 n1 hb hA HW hz
  go_wp2_with fail
  refine (HCI.out _ _ _).mono ?_
  rintro e w2 ⟨rfl, rfl⟩
  go_wp2_with fail
  refine bodyPost_ret (v := .tuple #[.int .i64 (cmpI n n2), .slice none 0 0, .slice none 0 0]) (by first | (simp [results, Try.results126, go_sem]; done) | (simp [results, Try.results126, go_sem]; rfl)) rfl ⟨rfl, hbw⟩

set_option maxRecDepth 100000 in
set_option maxHeartbeats 2000000 in
theorem heads_4 (n n2 : Int) (s s2 : ByteArray) (a1 a2 : Option Addr) (len len2 c1 c2 : Nat) (w : World) :
    Calls Try.prog 126 #[.agg #[.int .i64 4, .int .i64 n, .string s, .slice a1 len c1], .agg #[.int .i64 4, .int .i64 n2, .string s2, .slice a2 len2 c2]] w fun e w' => e = .returned (.tuple #[.int .i64 (cmpI len len2), .slice a1 len c1, .slice a2 len2 c2]) ∧ Below w.heap.size w w' := by
  obtain ⟨W, hW⟩ : ∃ W, W = (w.alloc (.cells #[.int .i64 4, .int .i64 n, .string s, .slice a1 len c1] 26)).alloc (.cells #[.int .i64 4, .int .i64 n2, .string s2, .slice a2 len2 c2] 26) := ⟨_, rfl⟩
  have hA : Below w.heap.size w W := by rw [hW]; exact ((Below.refl _ _).alloc (Nat.le_refl _) _).alloc (by simp) _
  have hz : W.heap.size = w.heap.size + 1 + 1 := by rw [hW]; simp
  have n0 : W.heap[w.heap.size]? = some (.cells #[.int .i64 4, .int .i64 n, .string s, .slice a1 len c1] 26 (0, 0)) := by rw [hW]; exact (Below.heap_alloc _ _ _ (by simp)).trans (heap_alloc_new w _)
  have n1 : W.heap[w.heap.size + 1]? = some (.cells #[.int .i64 4, .int .i64 n2, .string s2, .slice a2 len2 c2] 26 (0, 0)) := by
    have := heap_alloc_new (w.alloc (.cells #[.int .i64 4, .int .i64 n, .string s, .slice a1 len c1] 26)) (.cells #[.int .i64 4, .int .i64 n2, .string s2, .slice a2 len2 c2] 26)
    rw [show (w.alloc (.cells #[.int .i64 4, .int .i64 n, .string s, .slice a1 len c1] 26)).heap.size = w.heap.size + 1 from by simp, ← hW] at this
    exact this
  have hF := formOf_any 4 n s a1 len c1 W
  have HCI : Hid (∀ (x y : Int) (V : World), Calls Try.prog 125 #[.int .i64 x, .int .i64 y] V fun e w' => e = .returned (.int .i64 (cmpI x y)) ∧ V = w') := fun x y V => cmpInt_any x y V
  have HCS : Hid (∀ (V : World), Calls Try.prog 176 #[.string s, .string s2] V fun e w' => e = .returned (.int .i64 (cmpB s s2)) ∧ V = w') := fun V => cmpStr_any s s2 V
  rw [hW] at hF
  have HW : Hid (W = _) := hW
  clear hW
  have hF : Calls Try.prog 70 #[.agg #[.int .i64 4, .int .i64 n, .string s, .slice a1 len c1]] ((w.alloc (.cells #[.int .i64 4, .int .i64 n, .string s, .slice a1 len c1] 26)).alloc (.cells #[.int .i64 4, .int .i64 n2, .string s2, .slice a2 len2 c2] 26)) fun e w' => e = .returned (.iface 153 (.slice a1 len c1)) ∧ Below ((w.alloc (.cells #[.int .i64 4, .int .i64 n, .string s, .slice a1 len c1] 26)).alloc (.cells #[.int .i64 4, .int .i64 n2, .string s2, .slice a2 len2 c2] 26)).heap.size ((w.alloc (.cells #[.int .i64 4, .int .i64 n, .string s, .slice a1 len c1] 26)).alloc (.cells #[.int .i64 4, .int .i64 n2, .string s2, .slice a2 len2 c2] 26)) w' := hF
  go_enter Try.func126, Try.ntmps126
  go_wp2_with fail
  refine hF.mono ?_
  clear hF
  rintro e w1 ⟨rfl, hb⟩
  rw [← HW.out] at hb
  have hbw : Below w.heap.size w w1 := hA.trans (hb.mono hA.size)
  have m0 := (hb.block _ (by omega)).trans n0
  have m1 := (hb.block _ (by omega)).trans n1
  have x1 : w1.cell? ⟨w.heap.size, 1, none⟩ = some (.int .i64 n) := by rw [cell_of_row w1 _ 1 _ _ _ m0]; rfl
  have x2 : w1.cell? ⟨w.heap.size, 2, none⟩ = some (.string s) := by rw [cell_of_row w1 _ 2 _ _ _ m0]; rfl
  have x3 : w1.cell? ⟨w.heap.size, 3, none⟩ = some (.slice a1 len c1) := by rw [cell_of_row w1 _ 3 _ _ _ m0]; rfl
  have y1 : w1.cell? ⟨w.heap.size + 1, 1, none⟩ = some (.int .i64 n2) := by rw [cell_of_row w1 _ 1 _ _ _ m1]; rfl
  have y2 : w1.cell? ⟨w.heap.size + 1, 2, none⟩ = some (.string s2) := by rw [cell_of_row w1 _ 2 _ _ _ m1]; rfl
  have y3 : w1.cell? ⟨w.heap.size + 1, 3, none⟩ = some (.slice a2 len2 c2) := by rw [cell_of_row w1 _ 3 _ _ _ m1]; rfl
  clear m0 m1 n0 n1 hb hA HW hz
  go_wp2_with fail
  go_quiet (first | (go_at_call 125; refine Calls.quiet_of_same (cmpInt_any' _ _ _)))
  all_goals
    go_wp2_with fail
    refine bodyPost_ret (v := .tuple #[.int .i64 (cmpI len len2), .slice a1 len c1, .slice a2 len2 c2]) (by first | (simp [results, Try.results126, go_sem]; done) | (simp [results, Try.results126, go_sem]; rfl)) rfl ⟨rfl, by first | exact below_drewN hbw _ | exact hbw.drew | exact hbw⟩

set_option maxRecDepth 100000 in
set_option maxHeartbeats 2000000 in
theorem heads_5 (n n2 : Int) (s s2 : ByteArray) (a1 a2 : Option Addr) (len len2 c1 c2 : Nat) (w : World) :
    Calls Try.prog 126 #[.agg #[.int .i64 5, .int .i64 n, .string s, .slice a1 len c1], .agg #[.int .i64 5, .int .i64 n2, .string s2, .slice a2 len2 c2]] w fun e w' => e = .returned (.tuple #[.int .i64 0, .slice a1 len c1, .slice a2 len2 c2]) ∧ Below w.heap.size w w' := by
  obtain ⟨W, hW⟩ : ∃ W, W = (w.alloc (.cells #[.int .i64 5, .int .i64 n, .string s, .slice a1 len c1] 26)).alloc (.cells #[.int .i64 5, .int .i64 n2, .string s2, .slice a2 len2 c2] 26) := ⟨_, rfl⟩
  have hA : Below w.heap.size w W := by rw [hW]; exact ((Below.refl _ _).alloc (Nat.le_refl _) _).alloc (by simp) _
  have hz : W.heap.size = w.heap.size + 1 + 1 := by rw [hW]; simp
  have n0 : W.heap[w.heap.size]? = some (.cells #[.int .i64 5, .int .i64 n, .string s, .slice a1 len c1] 26 (0, 0)) := by rw [hW]; exact (Below.heap_alloc _ _ _ (by simp)).trans (heap_alloc_new w _)
  have n1 : W.heap[w.heap.size + 1]? = some (.cells #[.int .i64 5, .int .i64 n2, .string s2, .slice a2 len2 c2] 26 (0, 0)) := by
    have := heap_alloc_new (w.alloc (.cells #[.int .i64 5, .int .i64 n, .string s, .slice a1 len c1] 26)) (.cells #[.int .i64 5, .int .i64 n2, .string s2, .slice a2 len2 c2] 26)
    rw [show (w.alloc (.cells #[.int .i64 5, .int .i64 n, .string s, .slice a1 len c1] 26)).heap.size = w.heap.size + 1 from by simp, ← hW] at this
    exact this
  have hF := formOf_any 5 n s a1 len c1 W
  have HCI : Hid (∀ (x y : Int) (V : World), Calls Try.prog 125 #[.int .i64 x, .int .i64 y] V fun e w' => e = .returned (.int .i64 (cmpI x y)) ∧ V = w') := fun x y V => cmpInt_any x y V
  have HCS : Hid (∀ (V : World), Calls Try.prog 176 #[.string s, .string s2] V fun e w' => e = .returned (.int .i64 (cmpB s s2)) ∧ V = w') := fun V => cmpStr_any s s2 V
  rw [hW] at hF
  have HW : Hid (W = _) := hW
  clear hW
  have hF : Calls Try.prog 70 #[.agg #[.int .i64 5, .int .i64 n, .string s, .slice a1 len c1]] ((w.alloc (.cells #[.int .i64 5, .int .i64 n, .string s, .slice a1 len c1] 26)).alloc (.cells #[.int .i64 5, .int .i64 n2, .string s2, .slice a2 len2 c2] 26)) fun e w' => e = .returned (.iface 155 (.slice a1 len c1)) ∧ Below ((w.alloc (.cells #[.int .i64 5, .int .i64 n, .string s, .slice a1 len c1] 26)).alloc (.cells #[.int .i64 5, .int .i64 n2, .string s2, .slice a2 len2 c2] 26)).heap.size ((w.alloc (.cells #[.int .i64 5, .int .i64 n, .string s, .slice a1 len c1] 26)).alloc (.cells #[.int .i64 5, .int .i64 n2, .string s2, .slice a2 len2 c2] 26)) w' := hF
  go_enter Try.func126, Try.ntmps126
  go_wp2_with fail
  refine hF.mono ?_
  clear hF
  rintro e w1 ⟨rfl, hb⟩
  rw [← HW.out] at hb
  have hbw : Below w.heap.size w w1 := hA.trans (hb.mono hA.size)
  have m0 := (hb.block _ (by omega)).trans n0
  have m1 := (hb.block _ (by omega)).trans n1
  have x1 : w1.cell? ⟨w.heap.size, 1, none⟩ = some (.int .i64 n) := by rw [cell_of_row w1 _ 1 _ _ _ m0]; rfl
  have x2 : w1.cell? ⟨w.heap.size, 2, none⟩ = some (.string s) := by rw [cell_of_row w1 _ 2 _ _ _ m0]; rfl
  have x3 : w1.cell? ⟨w.heap.size, 3, none⟩ = some (.slice a1 len c1) := by rw [cell_of_row w1 _ 3 _ _ _ m0]; rfl
  have y1 : w1.cell? ⟨w.heap.size + 1, 1, none⟩ = some (.int .i64 n2) := by rw [cell_of_row w1 _ 1 _ _ _ m1]; rfl
  have y2 : w1.cell? ⟨w.heap.size + 1, 2, none⟩ = some (.string s2) := by rw [cell_of_row w1 _ 2 _ _ _ m1]; rfl
  have y3 : w1.cell? ⟨w.heap.size + 1, 3, none⟩ = some (.slice a2 len2 c2) := by rw [cell_of_row w1 _ 3 _ _ _ m1]; rfl
  clear m0 m1 n0 n1 hb hA HW hz
  go_wp2_with fail
  go_quiet (fail)
  all_goals
    go_wp2_with fail
    refine bodyPost_ret (v := .tuple #[.int .i64 0, .slice a1 len c1, .slice a2 len2 c2]) (by first | (simp [results, Try.results126, go_sem]; done) | (simp [results, Try.results126, go_sem]; rfl)) rfl ⟨rfl, by first | exact below_drewN hbw _ | exact hbw.drew | exact hbw⟩

/-- What the heads tell, and the parts that count then. -/
theorem heads_any (k n : Int) (s : ByteArray) (a1 : Option Addr) (len c1 : Nat) (k2 n2 : Int) (s2 : ByteArray) (a2 : Option Addr) (len2 c2 : Nat) (w : World) (hk : k = 1 ∨ k = 2 ∨ k = 3 ∨ k = 4 ∨ k = 5) :
    ∃ pa pb : Value, (hway k n s len k2 n2 s2 len2 = 0 → pa = partsV k (.slice a1 len c1) ∧ pb = partsV k (.slice a2 len2 c2)) ∧ ∀ w : World,
    Calls Try.prog 126 #[.agg #[.int .i64 k, .int .i64 n, .string s, .slice a1 len c1], .agg #[.int .i64 k2, .int .i64 n2, .string s2, .slice a2 len2 c2]] w fun e w' => e = .returned (.tuple #[.int .i64 (hway k n s len k2 n2 s2 len2), pa, pb]) ∧ Below w.heap.size w w' := by
  by_cases hne : k = k2
  · subst hne
    rcases hk with rfl | rfl | rfl | rfl | rfl
    · refine ⟨_, _, fun _ => ⟨rfl, rfl⟩, fun w => ?_⟩
      exact heads_1 n n2 s s2 a1 a2 len len2 c1 c2 w
    · refine ⟨_, _, fun _ => ⟨rfl, rfl⟩, fun w => ?_⟩
      exact heads_2 n n2 s s2 a1 a2 len len2 c1 c2 w
    · refine ⟨_, _, fun _ => ⟨rfl, rfl⟩, fun w => ?_⟩
      exact heads_3 n n2 s s2 a1 a2 len len2 c1 c2 w
    · refine ⟨_, _, fun _ => ⟨rfl, rfl⟩, fun w => ?_⟩
      exact heads_4 n n2 s s2 a1 a2 len len2 c1 c2 w
    · refine ⟨_, _, fun _ => ⟨rfl, rfl⟩, fun w => ?_⟩
      exact heads_5 n n2 s s2 a1 a2 len len2 c1 c2 w
  · have e : hway k n s len k2 n2 s2 len2 = cmpI k k2 := by unfold hway; rw [if_pos hne]
    rw [e]
    exact ⟨_, _, fun h => absurd (cmpI_zero.1 h) hne, fun w => heads_unlike k n s a1 len c1 k2 n2 s2 a2 len2 c2 w hne⟩

/-- Two lists of which one or both are empty. -/
theorem taken_empty (p : Nat) (a1 a2 : Option Addr) (l1 l2 c1 c2 : Nat) (w : World) (h : l1 = 0 ∨ l2 = 0) : Calls Try.prog 127 #[.pointer (some ⟨p, 0, none⟩), .slice a1 l1 c1, .slice a2 l2 c2] w fun e w' => e = .returned (.bool (decide (l1 = 0 ∧ l2 = 0))) ∧ w = w' := by
  by_cases h1 : l1 = 0
  · subst h1
    by_cases h2 : l2 = 0
    · subst h2
      rw [decide_eq_true (by simp)]
      exact taken_none p a1 a2 c1 c2 w
    · rw [decide_eq_false (by omega)]
      have h3 : ((0 : Int) == (l2 : Int)) = false := by simp; omega
      go_enter Try.func127, Try.ntmps127
      go_wp2_with fail
      go_ret
      exact ⟨rfl, rfl⟩
  · obtain rfl : l2 = 0 := by omega
    rw [decide_eq_false (by omega)]
    have h3 : ((l1 : Int) == 0) = false := by simp; omega
    go_enter Try.func127, Try.ntmps127
    go_wp2_with fail
    go_ret
    exact ⟨rfl, rfl⟩

/-- Two lists that are not empty, while few have been met. -/
theorem taken_two (p : Nat) (m : Nat) (v1 v2 : Value) (b1 o1 b2 o2 l1 l2 c1 c2 : Nat) (w : World) (hh : w.heap[p]? = some (.cells #[.int .i64 m, v1, v2] 161 (0, 0))) (hm : m < 300) (hl : 0 < l1) (hl' : 0 < l2) (hl1 : l1 ≤ 9223372036854775807) (hl2 : l2 ≤ 9223372036854775807) :
    Calls Try.prog 127 #[.pointer (some ⟨p, 0, none⟩), .slice (some ⟨b1, o1, none⟩) l1 c1, .slice (some ⟨b2, o2, none⟩) l2 c2] w fun e w' => e = .returned (.bool false) ∧ w'.heap[p]? = some (.cells #[.int .i64 (m + 1 : Nat), v1, v2] 161 (0, 0)) ∧ Turned p w w' := by
  have HS1 : Hid (∀ W : World, Calls Try.prog 134 #[.slice (some ⟨b1, o1, none⟩) l1 c1] W fun e w' => e = .returned (.agg #[.pointer (some ⟨b1, o1, none⟩), .int .i64 l1]) ∧ Below W.heap.size W w') := fun W => spotOf_any b1 o1 l1 c1 W hl hl1
  have HS2 : Hid (∀ W : World, Calls Try.prog 134 #[.slice (some ⟨b2, o2, none⟩) l2 c2] W fun e w' => e = .returned (.agg #[.pointer (some ⟨b2, o2, none⟩), .int .i64 l2]) ∧ Below W.heap.size W w') := fun W => spotOf_any b2 o2 l2 c2 W hl' hl2
  have HJ : Hid (∀ W : World, Below w.heap.size w W → Calls Try.prog 177 #[.pointer (some ⟨p, 0, none⟩), .agg #[.pointer (some ⟨b1, o1, none⟩), .int .i64 l1], .agg #[.pointer (some ⟨b2, o2, none⟩), .int .i64 l2]] W fun e w' => e = .returned (.bool false) ∧ w'.heap[p]? = some (.cells #[.int .i64 (m + 1 : Nat), v1, v2] 161 (0, 0)) ∧ Turned p W w') := fun W hW => join_few p m v1 v2 _ _ l1 l2 W ((hW.block p (lt_of_row' hh)).trans hh) hm
  clear hh
  have q1 : ((l1 : Int) == 0) = false := by simp; omega
  have q2 : ((l2 : Int) == 0) = false := by simp; omega
  go_enter Try.func127, Try.ntmps127
  go_wp2_with fail
  refine (HS1.out _).mono ?_
  rintro e w1 ⟨rfl, hb1⟩
  go_wp2_with fail
  refine (HS2.out _).mono ?_
  rintro e w2 ⟨rfl, hb2⟩
  have hb : Below w.heap.size w w2 := hb1.trans (hb2.mono hb1.size)
  go_wp2_with fail
  refine (HJ.out _ hb).mono ?_
  rintro e w3 ⟨rfl, h3, hT3⟩
  have HF : Hid (w3.heap[p]? = some (.cells #[.int .i64 (m + 1 : Nat), v1, v2] 161 (0, 0)) ∧ Turned p w w3) := ⟨h3, (Turned.of_below hb).trans hT3⟩
  clear h3 hT3 hb hb1 hb2
  go_wp2_with fail
  go_ret
  exact ⟨rfl, HF.out⟩

end Go.Proofs.Ythjmbbpakidkdaa
