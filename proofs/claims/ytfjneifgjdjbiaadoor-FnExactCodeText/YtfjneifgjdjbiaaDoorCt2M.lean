/- The text of code: the model's. -/
import Derived.Test.YtfjneifgjdjbiaaDoorCt1M
import Derived.Test.YtfjneifgjdjbiaaDoorCs3M
import Derived.Test.YtfjneifgjdjbiaaDoorTmM
namespace Go.Proofs.YtfjneifgjdjbiaaDoor
open Go.RowKit
set_option linter.unusedVariables false

set_option maxRecDepth 100000 in
set_option maxHeartbeats 2000000 in
theorem l9Text_1 (n : Int) (s : ByteArray) (tq : Int) (w : World) (hs : s.size ≤ 20) (hn0 : 0 ≤ n) (hn1 : n ≤ 1000000000000) (ht0 : 0 ≤ tq) (ht1 : tq ≤ 1500) (R : ByteArray) (hR : R = insT 1 n s tq) :
    Calls Tryd.prog 13 #[.agg #[.int .i64 1, .int .i64 n, .string s, .int .i64 tq]] w fun e w' => e = .returned (.string R) ∧ Below w.heap.size w w' := by
  rw [insT1] at hR
  have HR : Hid (R = ((⟨#[105, 110, 116, 32]⟩ : ByteArray) ++ intText n)) := hR
  obtain ⟨W, hW⟩ : ∃ W, W = w.alloc (.cells #[.int .i64 1, .int .i64 n, .string s, .int .i64 tq] 44) := ⟨_, rfl⟩
  have hA : Below w.heap.size w W := by rw [hW]; exact (Below.refl _ _).alloc (Nat.le_refl _) _
  have nA : W.heap[w.heap.size]? = some (.cells #[.int .i64 1, .int .i64 n, .string s, .int .i64 tq] 44 (0, 0)) := by rw [hW]; exact heap_alloc_new w _
  have HA : Hid (Below w.heap.size w W) := hA
  have hwl : w.heap.size < W.heap.size := lt_row nA
  obtain ⟨D1, hD1⟩ : ∃ D, intText n = D := ⟨_, rfl⟩
  have hz1 : D1.size ≤ 19 := by rw [← hD1]; exact intText_size n
  have HC1 : Hid (∀ V : World, Calls Tryd.prog 12 #[.int .i64 n] V fun e w' => e = .returned (.string D1) ∧ Below V.heap.size V w') := fun V => by rw [← hD1]; exact specInt_any n V (by omega) (by omega)
  rw [hD1] at HR
  clear hR hA hD1 
  have hC := HC1.out W
  rw [hW] at hC
  clear nA
  go_enter Tryd.func13, Tryd.ntmps13
  go_wp2_with fail
  refine hC.mono ?_
  clear hC
  rintro e V ⟨rfl, hB⟩
  rw [← hW] at hB
  have HB : Hid (Below w.heap.size w V) := HA.out.trans (hB.mono HA.out.size)
  clear hB hW
  go_wp2_with fail
  go_ret
  exact ⟨by rw [HR.out]; rfl, HB.out⟩

set_option maxRecDepth 100000 in
set_option maxHeartbeats 2000000 in
theorem l9Text_2 (n : Int) (s : ByteArray) (tq : Int) (w : World) (hs : s.size ≤ 20) (hn0 : 0 ≤ n) (hn1 : n ≤ 1000000000000) (ht0 : 0 ≤ tq) (ht1 : tq ≤ 1500) (R : ByteArray) (hR : R = insT 2 n s tq) :
    Calls Tryd.prog 13 #[.agg #[.int .i64 2, .int .i64 n, .string s, .int .i64 tq]] w fun e w' => e = .returned (.string R) ∧ Below w.heap.size w w' := by
  rw [insT2] at hR
  have HR : Hid (R = ((⟨#[97, 116, 111, 109, 32]⟩ : ByteArray) ++ s)) := hR
  obtain ⟨W, hW⟩ : ∃ W, W = w.alloc (.cells #[.int .i64 2, .int .i64 n, .string s, .int .i64 tq] 44) := ⟨_, rfl⟩
  have hA : Below w.heap.size w W := by rw [hW]; exact (Below.refl _ _).alloc (Nat.le_refl _) _
  have nA : W.heap[w.heap.size]? = some (.cells #[.int .i64 2, .int .i64 n, .string s, .int .i64 tq] 44 (0, 0)) := by rw [hW]; exact heap_alloc_new w _
  have HA : Hid (Below w.heap.size w W) := hA
  have hwl : w.heap.size < W.heap.size := lt_row nA
  clear hR hA 
  rw [hW] at HA
  clear nA hwl
  go_enter Tryd.func13, Tryd.ntmps13
  go_wp2_with fail
  go_ret
  exact ⟨by rw [HR.out]; rfl, HA.out⟩

set_option maxRecDepth 100000 in
set_option maxHeartbeats 2000000 in
theorem l9Text_3 (n : Int) (s : ByteArray) (tq : Int) (w : World) (hs : s.size ≤ 20) (hn0 : 0 ≤ n) (hn1 : n ≤ 1000000000000) (ht0 : 0 ≤ tq) (ht1 : tq ≤ 1500) (R : ByteArray) (hR : R = insT 3 n s tq) :
    Calls Tryd.prog 13 #[.agg #[.int .i64 3, .int .i64 n, .string s, .int .i64 tq]] w fun e w' => e = .returned (.string R) ∧ Below w.heap.size w w' := by
  rw [insT3] at hR
  have HR : Hid (R = ((⟨#[108, 111, 97, 100, 32]⟩ : ByteArray) ++ intText n)) := hR
  obtain ⟨W, hW⟩ : ∃ W, W = w.alloc (.cells #[.int .i64 3, .int .i64 n, .string s, .int .i64 tq] 44) := ⟨_, rfl⟩
  have hA : Below w.heap.size w W := by rw [hW]; exact (Below.refl _ _).alloc (Nat.le_refl _) _
  have nA : W.heap[w.heap.size]? = some (.cells #[.int .i64 3, .int .i64 n, .string s, .int .i64 tq] 44 (0, 0)) := by rw [hW]; exact heap_alloc_new w _
  have HA : Hid (Below w.heap.size w W) := hA
  have hwl : w.heap.size < W.heap.size := lt_row nA
  obtain ⟨D1, hD1⟩ : ∃ D, intText n = D := ⟨_, rfl⟩
  have hz1 : D1.size ≤ 19 := by rw [← hD1]; exact intText_size n
  have HC1 : Hid (∀ V : World, Calls Tryd.prog 12 #[.int .i64 n] V fun e w' => e = .returned (.string D1) ∧ Below V.heap.size V w') := fun V => by rw [← hD1]; exact specInt_any n V (by omega) (by omega)
  rw [hD1] at HR
  clear hR hA hD1 
  have hC := HC1.out W
  rw [hW] at hC
  clear nA
  go_enter Tryd.func13, Tryd.ntmps13
  go_wp2_with fail
  refine hC.mono ?_
  clear hC
  rintro e V ⟨rfl, hB⟩
  rw [← hW] at hB
  have HB : Hid (Below w.heap.size w V) := HA.out.trans (hB.mono HA.out.size)
  clear hB hW
  go_wp2_with fail
  go_ret
  exact ⟨by rw [HR.out]; rfl, HB.out⟩

set_option maxRecDepth 100000 in
set_option maxHeartbeats 2000000 in
theorem l9Text_4 (n : Int) (s : ByteArray) (tq : Int) (w : World) (hs : s.size ≤ 20) (hn0 : 0 ≤ n) (hn1 : n ≤ 1000000000000) (ht0 : 0 ≤ tq) (ht1 : tq ≤ 1500) (R : ByteArray) (hR : R = insT 4 n s tq) :
    Calls Tryd.prog 13 #[.agg #[.int .i64 4, .int .i64 n, .string s, .int .i64 tq]] w fun e w' => e = .returned (.string R) ∧ Below w.heap.size w w' := by
  rw [insT4] at hR
  have HR : Hid (R = ((⟨#[116, 117, 112, 108, 101, 32]⟩ : ByteArray) ++ intText n)) := hR
  obtain ⟨W, hW⟩ : ∃ W, W = w.alloc (.cells #[.int .i64 4, .int .i64 n, .string s, .int .i64 tq] 44) := ⟨_, rfl⟩
  have hA : Below w.heap.size w W := by rw [hW]; exact (Below.refl _ _).alloc (Nat.le_refl _) _
  have nA : W.heap[w.heap.size]? = some (.cells #[.int .i64 4, .int .i64 n, .string s, .int .i64 tq] 44 (0, 0)) := by rw [hW]; exact heap_alloc_new w _
  have HA : Hid (Below w.heap.size w W) := hA
  have hwl : w.heap.size < W.heap.size := lt_row nA
  obtain ⟨D1, hD1⟩ : ∃ D, intText n = D := ⟨_, rfl⟩
  have hz1 : D1.size ≤ 19 := by rw [← hD1]; exact intText_size n
  have HC1 : Hid (∀ V : World, Calls Tryd.prog 12 #[.int .i64 n] V fun e w' => e = .returned (.string D1) ∧ Below V.heap.size V w') := fun V => by rw [← hD1]; exact specInt_any n V (by omega) (by omega)
  rw [hD1] at HR
  clear hR hA hD1 
  have hC := HC1.out W
  rw [hW] at hC
  clear nA
  go_enter Tryd.func13, Tryd.ntmps13
  go_wp2_with fail
  refine hC.mono ?_
  clear hC
  rintro e V ⟨rfl, hB⟩
  rw [← hW] at hB
  have HB : Hid (Below w.heap.size w V) := HA.out.trans (hB.mono HA.out.size)
  clear hB hW
  go_wp2_with fail
  go_ret
  exact ⟨by rw [HR.out]; rfl, HB.out⟩

set_option maxRecDepth 100000 in
set_option maxHeartbeats 2000000 in
theorem l9Text_5 (n : Int) (s : ByteArray) (tq : Int) (w : World) (hs : s.size ≤ 20) (hn0 : 0 ≤ n) (hn1 : n ≤ 1000000000000) (ht0 : 0 ≤ tq) (ht1 : tq ≤ 1500) (R : ByteArray) (hR : R = insT 5 n s tq) :
    Calls Tryd.prog 13 #[.agg #[.int .i64 5, .int .i64 n, .string s, .int .i64 tq]] w fun e w' => e = .returned (.string R) ∧ Below w.heap.size w w' := by
  rw [insT5] at hR
  have HR : Hid (R = ((⟨#[108, 105, 115, 116, 32]⟩ : ByteArray) ++ intText n)) := hR
  obtain ⟨W, hW⟩ : ∃ W, W = w.alloc (.cells #[.int .i64 5, .int .i64 n, .string s, .int .i64 tq] 44) := ⟨_, rfl⟩
  have hA : Below w.heap.size w W := by rw [hW]; exact (Below.refl _ _).alloc (Nat.le_refl _) _
  have nA : W.heap[w.heap.size]? = some (.cells #[.int .i64 5, .int .i64 n, .string s, .int .i64 tq] 44 (0, 0)) := by rw [hW]; exact heap_alloc_new w _
  have HA : Hid (Below w.heap.size w W) := hA
  have hwl : w.heap.size < W.heap.size := lt_row nA
  obtain ⟨D1, hD1⟩ : ∃ D, intText n = D := ⟨_, rfl⟩
  have hz1 : D1.size ≤ 19 := by rw [← hD1]; exact intText_size n
  have HC1 : Hid (∀ V : World, Calls Tryd.prog 12 #[.int .i64 n] V fun e w' => e = .returned (.string D1) ∧ Below V.heap.size V w') := fun V => by rw [← hD1]; exact specInt_any n V (by omega) (by omega)
  rw [hD1] at HR
  clear hR hA hD1 
  have hC := HC1.out W
  rw [hW] at hC
  clear nA
  go_enter Tryd.func13, Tryd.ntmps13
  go_wp2_with fail
  refine hC.mono ?_
  clear hC
  rintro e V ⟨rfl, hB⟩
  rw [← hW] at hB
  have HB : Hid (Below w.heap.size w V) := HA.out.trans (hB.mono HA.out.size)
  clear hB hW
  go_wp2_with fail
  go_ret
  exact ⟨by rw [HR.out]; rfl, HB.out⟩

set_option maxRecDepth 100000 in
set_option maxHeartbeats 2000000 in
theorem l9Text_6 (n : Int) (s : ByteArray) (tq : Int) (w : World) (hs : s.size ≤ 20) (hn0 : 0 ≤ n) (hn1 : n ≤ 1000000000000) (ht0 : 0 ≤ tq) (ht1 : tq ≤ 1500) (R : ByteArray) (hR : R = insT 6 n s tq) :
    Calls Tryd.prog 13 #[.agg #[.int .i64 6, .int .i64 n, .string s, .int .i64 tq]] w fun e w' => e = .returned (.string R) ∧ Below w.heap.size w w' := by
  rw [insT6] at hR
  have HR : Hid (R = ((⟨#[99, 111, 110, 115, 32]⟩ : ByteArray) ++ intText n)) := hR
  obtain ⟨W, hW⟩ : ∃ W, W = w.alloc (.cells #[.int .i64 6, .int .i64 n, .string s, .int .i64 tq] 44) := ⟨_, rfl⟩
  have hA : Below w.heap.size w W := by rw [hW]; exact (Below.refl _ _).alloc (Nat.le_refl _) _
  have nA : W.heap[w.heap.size]? = some (.cells #[.int .i64 6, .int .i64 n, .string s, .int .i64 tq] 44 (0, 0)) := by rw [hW]; exact heap_alloc_new w _
  have HA : Hid (Below w.heap.size w W) := hA
  have hwl : w.heap.size < W.heap.size := lt_row nA
  obtain ⟨D1, hD1⟩ : ∃ D, intText n = D := ⟨_, rfl⟩
  have hz1 : D1.size ≤ 19 := by rw [← hD1]; exact intText_size n
  have HC1 : Hid (∀ V : World, Calls Tryd.prog 12 #[.int .i64 n] V fun e w' => e = .returned (.string D1) ∧ Below V.heap.size V w') := fun V => by rw [← hD1]; exact specInt_any n V (by omega) (by omega)
  rw [hD1] at HR
  clear hR hA hD1 
  have hC := HC1.out W
  rw [hW] at hC
  clear nA
  go_enter Tryd.func13, Tryd.ntmps13
  go_wp2_with fail
  refine hC.mono ?_
  clear hC
  rintro e V ⟨rfl, hB⟩
  rw [← hW] at hB
  have HB : Hid (Below w.heap.size w V) := HA.out.trans (hB.mono HA.out.size)
  clear hB hW
  go_wp2_with fail
  go_ret
  exact ⟨by rw [HR.out]; rfl, HB.out⟩

set_option maxRecDepth 100000 in
set_option maxHeartbeats 2000000 in
theorem l9Text_7 (n : Int) (s : ByteArray) (tq : Int) (w : World) (hs : s.size ≤ 20) (hn0 : 0 ≤ n) (hn1 : n ≤ 1000000000000) (ht0 : 0 ≤ tq) (ht1 : tq ≤ 1500) (R : ByteArray) (hR : R = insT 7 n s tq) :
    Calls Tryd.prog 13 #[.agg #[.int .i64 7, .int .i64 n, .string s, .int .i64 tq]] w fun e w' => e = .returned (.string R) ∧ Below w.heap.size w w' := by
  rw [insT7] at hR
  have HR : Hid (R = ((⟨#[111, 112, 32]⟩ : ByteArray) ++ s)) := hR
  obtain ⟨W, hW⟩ : ∃ W, W = w.alloc (.cells #[.int .i64 7, .int .i64 n, .string s, .int .i64 tq] 44) := ⟨_, rfl⟩
  have hA : Below w.heap.size w W := by rw [hW]; exact (Below.refl _ _).alloc (Nat.le_refl _) _
  have nA : W.heap[w.heap.size]? = some (.cells #[.int .i64 7, .int .i64 n, .string s, .int .i64 tq] 44 (0, 0)) := by rw [hW]; exact heap_alloc_new w _
  have HA : Hid (Below w.heap.size w W) := hA
  have hwl : w.heap.size < W.heap.size := lt_row nA
  clear hR hA 
  rw [hW] at HA
  clear nA hwl
  go_enter Tryd.func13, Tryd.ntmps13
  go_wp2_with fail
  go_ret
  exact ⟨by rw [HR.out]; rfl, HA.out⟩

set_option maxRecDepth 100000 in
set_option maxHeartbeats 2000000 in
theorem l9Text_8 (n : Int) (s : ByteArray) (tq : Int) (w : World) (hs : s.size ≤ 20) (hn0 : 0 ≤ n) (hn1 : n ≤ 1000000000000) (ht0 : 0 ≤ tq) (ht1 : tq ≤ 1500) (R : ByteArray) (hR : R = insT 8 n s tq) :
    Calls Tryd.prog 13 #[.agg #[.int .i64 8, .int .i64 n, .string s, .int .i64 tq]] w fun e w' => e = .returned (.string R) ∧ Below w.heap.size w w' := by
  rw [insT8] at hR
  have HR : Hid (R = ((((⟨#[99, 97, 108, 108, 32]⟩ : ByteArray) ++ s) ++ ⟨#[32]⟩) ++ intText n)) := hR
  obtain ⟨W, hW⟩ : ∃ W, W = w.alloc (.cells #[.int .i64 8, .int .i64 n, .string s, .int .i64 tq] 44) := ⟨_, rfl⟩
  have hA : Below w.heap.size w W := by rw [hW]; exact (Below.refl _ _).alloc (Nat.le_refl _) _
  have nA : W.heap[w.heap.size]? = some (.cells #[.int .i64 8, .int .i64 n, .string s, .int .i64 tq] 44 (0, 0)) := by rw [hW]; exact heap_alloc_new w _
  have HA : Hid (Below w.heap.size w W) := hA
  have hwl : w.heap.size < W.heap.size := lt_row nA
  obtain ⟨D1, hD1⟩ : ∃ D, intText n = D := ⟨_, rfl⟩
  have hz1 : D1.size ≤ 19 := by rw [← hD1]; exact intText_size n
  have HC1 : Hid (∀ V : World, Calls Tryd.prog 12 #[.int .i64 n] V fun e w' => e = .returned (.string D1) ∧ Below V.heap.size V w') := fun V => by rw [← hD1]; exact specInt_any n V (by omega) (by omega)
  rw [hD1] at HR
  clear hR hA hD1 
  have x1 : W.cell? ⟨w.heap.size, 1, none⟩ = some ((.int .i64 n)) := by rw [cell_of_row W _ 1 _ _ _ nA]; rfl
  have x2 : W.cell? ⟨w.heap.size, 2, none⟩ = some ((.string s)) := by rw [cell_of_row W _ 2 _ _ _ nA]; rfl
  clear nA
  go_enter Tryd.func13, Tryd.ntmps13
  go_wp2_with fail
  rw [← hW]
  clear hW
  have hn0' := After.some W
  have p1 := After.cell x1
  have p2 := After.cell x2
  refine wp_region_after (by kernel_rfl) (by kernel_rfl) ?_
  repeat (go_big_quiet_step (first | (go_at_call 12; with_reducible exact calls_after (HC1.out _))))
  refine wpQuiet_nil ?_
  rintro _ ⟨nq, rfl⟩
  have HB : Hid (Below w.heap.size w nq.now) := HA.out.trans (nq.bel.mono HA.out.size)
  go_wp2_with fail
  go_ret
  exact ⟨by rw [HR.out]; rfl, HB.out⟩

set_option maxRecDepth 100000 in
set_option maxHeartbeats 2000000 in
theorem l9Text_9 (n : Int) (s : ByteArray) (tq : Int) (w : World) (hs : s.size ≤ 20) (hn0 : 0 ≤ n) (hn1 : n ≤ 1000000000000) (ht0 : 0 ≤ tq) (ht1 : tq ≤ 1500) (R : ByteArray) (hR : R = insT 9 n s tq) :
    Calls Tryd.prog 13 #[.agg #[.int .i64 9, .int .i64 n, .string s, .int .i64 tq]] w fun e w' => e = .returned (.string R) ∧ Below w.heap.size w w' := by
  rw [insT9] at hR
  have HR : Hid (R = ((((⟨#[109, 97, 116, 99, 104, 32]⟩ : ByteArray) ++ intText n) ++ ⟨#[32]⟩) ++ intText tq)) := hR
  obtain ⟨W, hW⟩ : ∃ W, W = w.alloc (.cells #[.int .i64 9, .int .i64 n, .string s, .int .i64 tq] 44) := ⟨_, rfl⟩
  have hA : Below w.heap.size w W := by rw [hW]; exact (Below.refl _ _).alloc (Nat.le_refl _) _
  have nA : W.heap[w.heap.size]? = some (.cells #[.int .i64 9, .int .i64 n, .string s, .int .i64 tq] 44 (0, 0)) := by rw [hW]; exact heap_alloc_new w _
  have HA : Hid (Below w.heap.size w W) := hA
  have hwl : w.heap.size < W.heap.size := lt_row nA
  obtain ⟨D1, hD1⟩ : ∃ D, intText n = D := ⟨_, rfl⟩
  have hz1 : D1.size ≤ 19 := by rw [← hD1]; exact intText_size n
  have HC1 : Hid (∀ V : World, Calls Tryd.prog 12 #[.int .i64 n] V fun e w' => e = .returned (.string D1) ∧ Below V.heap.size V w') := fun V => by rw [← hD1]; exact specInt_any n V (by omega) (by omega)
  rw [hD1] at HR
  obtain ⟨D2, hD2⟩ : ∃ D, intText tq = D := ⟨_, rfl⟩
  have hz2 : D2.size ≤ 19 := by rw [← hD2]; exact intText_size tq
  have HC2 : Hid (∀ V : World, Calls Tryd.prog 12 #[.int .i64 tq] V fun e w' => e = .returned (.string D2) ∧ Below V.heap.size V w') := fun V => by rw [← hD2]; exact specInt_any tq V (by omega) (by omega)
  rw [hD2] at HR
  clear hR hA hD1 hD2 
  have x1 : W.cell? ⟨w.heap.size, 1, none⟩ = some ((.int .i64 n)) := by rw [cell_of_row W _ 1 _ _ _ nA]; rfl
  have x3 : W.cell? ⟨w.heap.size, 3, none⟩ = some ((.int .i64 tq)) := by rw [cell_of_row W _ 3 _ _ _ nA]; rfl
  clear nA
  go_enter Tryd.func13, Tryd.ntmps13
  go_wp2_with fail
  rw [← hW]
  clear hW
  have hn0' := After.some W
  have p1 := After.cell x1
  have p3 := After.cell x3
  refine wp_region_after (by kernel_rfl) (by kernel_rfl) ?_
  repeat (go_big_quiet_step (first | (go_at_call 12; with_reducible exact calls_after (HC1.out _)) | (go_at_call 12; with_reducible exact calls_after (HC2.out _))))
  refine wpQuiet_nil ?_
  rintro _ ⟨nq, rfl⟩
  have HB : Hid (Below w.heap.size w nq.now) := HA.out.trans (nq.bel.mono HA.out.size)
  go_wp2_with fail
  go_ret
  exact ⟨by rw [HR.out]; rfl, HB.out⟩

set_option maxRecDepth 100000 in
set_option maxHeartbeats 2000000 in
theorem l9Text_10 (n : Int) (s : ByteArray) (tq : Int) (w : World) (hs : s.size ≤ 20) (hn0 : 0 ≤ n) (hn1 : n ≤ 1000000000000) (ht0 : 0 ≤ tq) (ht1 : tq ≤ 1500) (R : ByteArray) (hR : R = insT 10 n s tq) :
    Calls Tryd.prog 13 #[.agg #[.int .i64 10, .int .i64 n, .string s, .int .i64 tq]] w fun e w' => e = .returned (.string R) ∧ Below w.heap.size w w' := by
  rw [insT10] at hR
  have HR : Hid (R = ((⟨#[106, 117, 109, 112, 32]⟩ : ByteArray) ++ intText tq)) := hR
  obtain ⟨W, hW⟩ : ∃ W, W = w.alloc (.cells #[.int .i64 10, .int .i64 n, .string s, .int .i64 tq] 44) := ⟨_, rfl⟩
  have hA : Below w.heap.size w W := by rw [hW]; exact (Below.refl _ _).alloc (Nat.le_refl _) _
  have nA : W.heap[w.heap.size]? = some (.cells #[.int .i64 10, .int .i64 n, .string s, .int .i64 tq] 44 (0, 0)) := by rw [hW]; exact heap_alloc_new w _
  have HA : Hid (Below w.heap.size w W) := hA
  have hwl : w.heap.size < W.heap.size := lt_row nA
  obtain ⟨D2, hD2⟩ : ∃ D, intText tq = D := ⟨_, rfl⟩
  have hz2 : D2.size ≤ 19 := by rw [← hD2]; exact intText_size tq
  have HC2 : Hid (∀ V : World, Calls Tryd.prog 12 #[.int .i64 tq] V fun e w' => e = .returned (.string D2) ∧ Below V.heap.size V w') := fun V => by rw [← hD2]; exact specInt_any tq V (by omega) (by omega)
  rw [hD2] at HR
  clear hR hA hD2 
  have hC := HC2.out W
  rw [hW] at hC
  clear nA
  go_enter Tryd.func13, Tryd.ntmps13
  go_wp2_with fail
  refine hC.mono ?_
  clear hC
  rintro e V ⟨rfl, hB⟩
  rw [← hW] at hB
  have HB : Hid (Below w.heap.size w V) := HA.out.trans (hB.mono HA.out.size)
  clear hB hW
  go_wp2_with fail
  go_ret
  exact ⟨by rw [HR.out]; rfl, HB.out⟩

set_option maxRecDepth 100000 in
set_option maxHeartbeats 2000000 in
theorem l9Text_11 (n : Int) (s : ByteArray) (tq : Int) (w : World) (hs : s.size ≤ 20) (hn0 : 0 ≤ n) (hn1 : n ≤ 1000000000000) (ht0 : 0 ≤ tq) (ht1 : tq ≤ 1500) (R : ByteArray) (hR : R = insT 11 n s tq) :
    Calls Tryd.prog 13 #[.agg #[.int .i64 11, .int .i64 n, .string s, .int .i64 tq]] w fun e w' => e = .returned (.string R) ∧ Below w.heap.size w w' := by
  rw [insT11] at hR
  have HR : Hid (R = (⟨#[102, 97, 105, 108]⟩ : ByteArray)) := hR
  obtain ⟨W, hW⟩ : ∃ W, W = w.alloc (.cells #[.int .i64 11, .int .i64 n, .string s, .int .i64 tq] 44) := ⟨_, rfl⟩
  have hA : Below w.heap.size w W := by rw [hW]; exact (Below.refl _ _).alloc (Nat.le_refl _) _
  have nA : W.heap[w.heap.size]? = some (.cells #[.int .i64 11, .int .i64 n, .string s, .int .i64 tq] 44 (0, 0)) := by rw [hW]; exact heap_alloc_new w _
  have HA : Hid (Below w.heap.size w W) := hA
  have hwl : w.heap.size < W.heap.size := lt_row nA
  clear hR hA 
  rw [hW] at HA
  clear nA hwl
  go_enter Tryd.func13, Tryd.ntmps13
  go_wp2_with fail
  go_ret
  exact ⟨by rw [HR.out]; rfl, HA.out⟩

set_option maxRecDepth 100000 in
set_option maxHeartbeats 2000000 in
theorem l9Text_12 (n : Int) (s : ByteArray) (tq : Int) (w : World) (hs : s.size ≤ 20) (hn0 : 0 ≤ n) (hn1 : n ≤ 1000000000000) (ht0 : 0 ≤ tq) (ht1 : tq ≤ 1500) (R : ByteArray) (hR : R = insT 12 n s tq) :
    Calls Tryd.prog 13 #[.agg #[.int .i64 12, .int .i64 n, .string s, .int .i64 tq]] w fun e w' => e = .returned (.string R) ∧ Below w.heap.size w w' := by
  rw [insT12] at hR
  have HR : Hid (R = (⟨#[114, 101, 116]⟩ : ByteArray)) := hR
  obtain ⟨W, hW⟩ : ∃ W, W = w.alloc (.cells #[.int .i64 12, .int .i64 n, .string s, .int .i64 tq] 44) := ⟨_, rfl⟩
  have hA : Below w.heap.size w W := by rw [hW]; exact (Below.refl _ _).alloc (Nat.le_refl _) _
  have nA : W.heap[w.heap.size]? = some (.cells #[.int .i64 12, .int .i64 n, .string s, .int .i64 tq] 44 (0, 0)) := by rw [hW]; exact heap_alloc_new w _
  have HA : Hid (Below w.heap.size w W) := hA
  have hwl : w.heap.size < W.heap.size := lt_row nA
  clear hR hA 
  rw [hW] at HA
  clear nA hwl
  go_enter Tryd.func13, Tryd.ntmps13
  go_wp2_with fail
  go_ret
  exact ⟨by rw [HR.out]; rfl, HA.out⟩

theorem l9Text_any (op n : Int) (s : ByteArray) (tq : Int) (w : World) (h1 : 1 ≤ op) (h2 : op ≤ 12) (hs : s.size ≤ 20) (hn0 : 0 ≤ n) (hn1 : n ≤ 1000000000000) (ht0 : 0 ≤ tq) (ht1 : tq ≤ 1500) :
    Calls Tryd.prog 13 #[.agg #[.int .i64 op, .int .i64 n, .string s, .int .i64 tq]] w fun e w' => e = .returned (.string (insT op n s tq)) ∧ Below w.heap.size w w' := by
  rcases ins_ops h1 h2 with rfl | rfl | rfl | rfl | rfl | rfl | rfl | rfl | rfl | rfl | rfl | rfl
  · exact l9Text_1 n s tq w hs hn0 hn1 ht0 ht1 _ rfl
  · exact l9Text_2 n s tq w hs hn0 hn1 ht0 ht1 _ rfl
  · exact l9Text_3 n s tq w hs hn0 hn1 ht0 ht1 _ rfl
  · exact l9Text_4 n s tq w hs hn0 hn1 ht0 ht1 _ rfl
  · exact l9Text_5 n s tq w hs hn0 hn1 ht0 ht1 _ rfl
  · exact l9Text_6 n s tq w hs hn0 hn1 ht0 ht1 _ rfl
  · exact l9Text_7 n s tq w hs hn0 hn1 ht0 ht1 _ rfl
  · exact l9Text_8 n s tq w hs hn0 hn1 ht0 ht1 _ rfl
  · exact l9Text_9 n s tq w hs hn0 hn1 ht0 ht1 _ rfl
  · exact l9Text_10 n s tq w hs hn0 hn1 ht0 ht1 _ rfl
  · exact l9Text_11 n s tq w hs hn0 hn1 ht0 ht1 _ rfl
  · exact l9Text_12 n s tq w hs hn0 hn1 ht0 ht1 _ rfl

set_option maxRecDepth 100000 in
set_option maxHeartbeats 8000000 in
theorem specCodeText_any (d : Nat) (vs : List Value) (c : DCode d) (w : World) (hc : CodeR d w vs c) (hwc : WfCode d c) (hz : szCodeD d c ≤ 1048576) :
    Calls Tryd.prog 5 #[.agg vs.toArray] w fun e w' => ∃ r, e = .returned (.string r) ∧ Hid (CodeTextT d c r) ∧ Below w.heap.size w w' := by
  obtain ⟨a0, l0, c0, a1, l1, c1, rfl⟩ := CodeR.shape _ _ _ _ hc
  obtain ⟨W, hW⟩ : ∃ W, W = w.alloc (.cells #[.slice a0 l0 c0, .slice a1 l1 c1] 31) := ⟨_, rfl⟩
  have hA : Below w.heap.size w W := by rw [hW]; exact (Below.refl _ _).alloc (Nat.le_refl _) _
  have nA : W.heap[w.heap.size]? = some (.cells #[.slice a0 l0 c0, .slice a1 l1 c1] 31 (0, 0)) := by rw [hW]; exact heap_alloc_new w _
  have HA : Hid (Below w.heap.size w W ∧ W.heap[w.heap.size]? = some (.cells #[.slice a0 l0 c0, .slice a1 l1 c1] 31 (0, 0))) := ⟨hA, nA⟩
  have hC := specCodeOk_any d _ c W (CodeR.lasts d _ _ _ _ hc hA) hwc hz
  rw [hW] at hC
  have HW : Hid (W = _) := hW
  obtain ⟨w0, w1, e0, hF, hP⟩ := hc
  simp only [List.cons.injEq, and_true] at e0
  obtain ⟨rfl, rfl⟩ := e0
  obtain ⟨aa, cc, ee⟩ := hF.slice
  simp only [Value.slice.injEq] at ee
  obtain ⟨-, el, -⟩ := ee
  have HLN : Hid (c.Fns.length = l0 ∧ l0 ≤ 1048576) := ⟨el.symm, by have := szRow_len szFnD c.Fns; unfold szCodeD at hz; omega⟩
  have HRW : Hid (∀ V : World, Below w.heap.size w V → RowOf 4 FnR V (.slice a0 l0 c0) c.Fns) := fun V hV => hF.later FnR.lasts hV
  have hl0 : l0 ≤ 1048576 := HLN.out.2
  clear hwc hz hF hP el nA hA hW
  go_enter Tryd.func5, Tryd.ntmps5
  go_wp2_with fail
  refine hC.mono ?_
  clear hC
  rintro e V ⟨b, rfl, hb, hB⟩
  rw [← HW.out] at hB
  have HBV : Hid (Below w.heap.size w V) := HA.out.1.trans (hB.mono HA.out.1.size)
  have HNV : Hid (V.heap[w.heap.size]? = _) := (hB.block _ (lt_row HA.out.2)).trans HA.out.2
  clear hB HW
  cases b with
  | false =>
    have HF : Hid (CodeTextT d c ⟨#[]⟩) := .inr ⟨fun h => (by have := hb.2 h; cases this), rfl⟩
    clear hb
    go_wp2_with fail
    go_ret
    exact ⟨_, rfl, HF, HBV.out⟩
  | true =>
  have HOK : Hid (pCodeOk d c) := hb.1 rfl
  have HSM : Hid (Small c.Fns) := code_small HOK.out
  have HNM : Hid (Nums c.Fns) := code_nums HOK.out
  have hl12 : l0 ≤ 12 := by have := HOK.out.1; have := HLN.out; omega
  clear hb
  go_wp2_with fail
  go_loopw [3, 4] (fun s i wr => ∃ (j : Nat) (acc : ByteArray), j ≤ l0 ∧ i = .int .i64 j ∧ s = .string acc ∧ Hid (acc = cdA ⟨#[]⟩ (c.Fns.take j)) ∧ Hid (Below V.heap.size V wr)) (fun _ i _ => l0 - (intOf i).toNat)
  case atStart => exact ⟨0, _, Nat.zero_le _, rfl, rfl, rfl, Below.refl _ _⟩
  case round =>
    obtain ⟨j, acc, hj, rfl, rfl, HAC, HBj⟩ := hrel
    obtain ⟨wo, hwo⟩ : ∃ X, X = wr := ⟨_, rfl⟩
    subst hwo
    have HBW : Hid (Below w.heap.size w wo) := HBV.out.trans (HBj.out.mono HBV.out.size)
    have nW := (HBj.out.block _ (lt_row HNV.out)).trans HNV.out
    have u0 : wo.cell? ⟨w.heap.size, 0, none⟩ = some (.slice a0 l0 c0) := by rw [cell_of_row wo _ 0 _ _ _ nW]; rfl
    have hwl : w.heap.size < wo.heap.size := lt_row nW
    have hac : acc.size ≤ 2000000 := by
      rw [HAC.out]
      have h1 := cdA_size (fs := c.Fns.take j) (fun f hf => HSM.out f (List.mem_of_mem_take hf)) ⟨#[]⟩
      have h2 : (c.Fns.take j).length ≤ 12 := by rw [List.length_take]; have := HLN.out; omega
      have h3 : (⟨#[]⟩ : ByteArray).size = 0 := rfl
      omega
    clear nW
    by_cases hjl : j < l0
    case neg =>
      obtain rfl : j = l0 := by omega
      have hjl' : decide ((j : Int) < (j : Int)) = false := by simp
      have HF : Hid (CodeTextT d c acc) := .inl ⟨HOK.out, by rw [HAC.out, List.take_of_length_le (by have := HLN.out; omega)]⟩
      clear HAC hjl
      go_wp2_with fail
      go_ret
      exact ⟨_, rfl, HF, HBW.out⟩
    have hjl' : (j : Int) < (l0 : Int) := by omega
    obtain ⟨f, hf⟩ : ∃ x, c.Fns[j]? = some x := ⟨_, List.getElem?_eq_getElem (by have := HLN.out; omega)⟩
    obtain ⟨b, o, a3, c3, rfl, f0, f1, f2, f3, hrow⟩ := Fn_at (HRW.out wo HBW.out) j f hf
    have hfm := List.mem_of_getElem? hf
    obtain ⟨hs1, hs2, hs3⟩ := HSM.out f hfm
    obtain ⟨⟨ha4, hs4⟩, hn3⟩ := HNM.out f hfm
    have hbl : b < wo.heap.size := by have := World.block_lt_of_cell? wo _ f0; simpa using this
    obtain ⟨li, hli⟩ : ∃ l, f.Ins.length = l := ⟨_, rfl⟩
    rw [hli] at f3 hrow hs2
    have HLI : Hid (f.Ins.length = li) := hli
    have HFX : Hid (c.Fns[j]? = some f) := hf
    have HS3 : Hid (∀ x ∈ f.Ins, (1 ≤ x.Op ∧ x.Op ≤ 12) ∧ x.S.size ≤ 20) := hs3
    have HN3 : Hid (∀ x ∈ f.Ins, (0 ≤ x.N ∧ x.N ≤ 1000000000000) ∧ (0 ≤ x.To ∧ x.To ≤ 1500)) := hn3
    obtain ⟨D1, hD1⟩ : ∃ D, intText f.Args = D := ⟨_, rfl⟩
    obtain ⟨D2, hD2⟩ : ∃ D, intText f.Slots = D := ⟨_, rfl⟩
    have hz1 : D1.size ≤ 19 := by rw [← hD1]; exact intText_size _
    have hz2 : D2.size ≤ 19 := by rw [← hD2]; exact intText_size _
    have HC1 : Hid (∀ V : World, Calls Tryd.prog 12 #[.int .i64 f.Args] V fun e w' => e = .returned (.string D1) ∧ Below V.heap.size V w') := fun V => by rw [← hD1]; exact specInt_any f.Args V (by omega) (by omega)
    have HC2 : Hid (∀ V : World, Calls Tryd.prog 12 #[.int .i64 f.Slots] V fun e w' => e = .returned (.string D2) ∧ Below V.heap.size V w') := fun V => by rw [← hD2]; exact specInt_any f.Slots V (by omega) (by omega)
    obtain ⟨X, hX⟩ : ∃ X, wo.alloc (.cells #[.string f.Name, .int .i64 f.Args, .int .i64 f.Slots, .slice a3 li c3] 40) = X := ⟨_, rfl⟩
    have bX : Below wo.heap.size wo X := by rw [← hX]; exact (Below.refl _ _).alloc (Nat.le_refl _) _
    have nX : X.heap[wo.heap.size]? = some (.cells #[.string f.Name, .int .i64 f.Args, .int .i64 f.Slots, .slice a3 li c3] 40 (0, 0)) := by rw [← hX]; exact heap_alloc_new _ _
    have g0 : X.cell? ⟨wo.heap.size, 0, none⟩ = some (.string f.Name) := by rw [cell_of_row X _ 0 _ _ _ nX]; rfl
    have g1 : X.cell? ⟨wo.heap.size, 1, none⟩ = some (.int .i64 f.Args) := by rw [cell_of_row X _ 1 _ _ _ nX]; rfl
    have g2 : X.cell? ⟨wo.heap.size, 2, none⟩ = some (.int .i64 f.Slots) := by rw [cell_of_row X _ 2 _ _ _ nX]; rfl
    have HXB : Hid (Below V.heap.size V X ∧ Below w.heap.size w X ∧ X.heap[wo.heap.size]? = some (.cells #[.string f.Name, .int .i64 f.Args, .int .i64 f.Slots, .slice a3 li c3] 40 (0, 0))) := ⟨HBj.out.trans (bX.mono HBj.out.size), HBW.out.trans (bX.mono HBW.out.size), nX⟩
    have HRX : Hid (∀ Z : World, Below X.heap.size X Z → RowOf 4 InsR Z (.slice a3 li c3) f.Ins) := fun Z hZ => (hrow.later InsR.lasts bX).later InsR.lasts hZ
    have HHD : Hid ((((((acc ++ f.Name) ++ ⟨#[47]⟩) ++ D1) ++ ⟨#[32]⟩) ++ D2) ++ ⟨#[10]⟩ = hdA acc f) := by show _ = _; unfold hdA; rw [hD1, hD2]
    have HXE : Hid (wo.alloc (.cells #[.string f.Name, .int .i64 f.Args, .int .i64 f.Slots, .slice a3 li c3] 40) = X) := hX
    clear hf hfm hs3 hn3 ha4 hs4 hli hD1 hD2 bX nX hrow hX
    go_wp2_with fail
    rw [HXE.out]
    clear f0 f1 f2 f3 u0
    have hn0' := After.some X
    have p0 := After.cell g0
    have p1 := After.cell g1
    have p2 := After.cell g2
    refine wp_region_after (by kernel_rfl) (by kernel_rfl) ?_
    repeat (go_big_quiet_step (first | (go_at_call 12; with_reducible exact calls_after (HC1.out _)) | (go_at_call 12; with_reducible exact calls_after (HC2.out _))))
    refine wpQuiet_nil ?_
    rintro _ ⟨nq, rfl⟩
    have HBN : Hid (Below X.heap.size X nq.now) := nq.bel
    obtain ⟨Y, hY⟩ : ∃ Y, nq.now = Y := ⟨_, rfl⟩
    rw [hY] at HBN ⊢
    rw [HHD.out]
    obtain ⟨ac1, hac1⟩ : ∃ a, hdA acc f = a := ⟨_, rfl⟩
    have HA1 : Hid (hdA acc f = ac1) := hac1
    have hz3 : ac1.size ≤ 2000100 := by have := hdA_size (acc := acc) hs1; rw [hac1] at this; omega
    rw [hac1]
    clear hY nq p0 p1 p2 hn0' g0 g1 g2 HC1 HC2 hac1 HHD hz1 hz2
    go_wp2_with fail
    go_loopw [3, 6] (fun s i wr => ∃ (k : Nat) (ac : ByteArray), k ≤ li ∧ i = .int .i64 k ∧ s = .string ac ∧ Hid (ac = lnsA ac1 0 (f.Ins.take k)) ∧ Hid (Below X.heap.size X wr)) (fun _ i _ => li - (intOf i).toNat)
    case atStart => exact ⟨0, _, Nat.zero_le _, rfl, rfl, rfl, HBN⟩
    case round =>
      obtain ⟨k, ac, hk, rfl, rfl, HK, HBk⟩ := hrel
      have nq := (HBk.out.block _ (lt_row HXB.out.2.2)).trans HXB.out.2.2
      have v3 : wr.cell? ⟨wo.heap.size, 3, none⟩ = some (.slice a3 li c3) := by rw [cell_of_row wr _ 3 _ _ _ nq]; rfl
      have hql : wo.heap.size < wr.heap.size := lt_row nq
      clear nq
      by_cases hkl : k < li
      · have hkl' : (k : Int) < (li : Int) := by omega
        obtain ⟨x, hx⟩ : ∃ x, f.Ins[k]? = some x := ⟨_, List.getElem?_eq_getElem (by have := HLI.out; omega)⟩
        obtain ⟨bi, oi, rfl, i0, i1, i2, i3⟩ := Ins_at (HRX.out wr HBk.out) k x hx
        have hxm := List.mem_of_getElem? hx
        obtain ⟨⟨o1, o2⟩, o3⟩ := HS3.out x hxm
        obtain ⟨⟨o4, o5⟩, o6, o7⟩ := HN3.out x hxm
        obtain ⟨D3, hD3⟩ : ∃ D, intText (k : Int) = D := ⟨_, rfl⟩
        obtain ⟨D4, hD4⟩ : ∃ D, insT x.Op x.N x.S x.To = D := ⟨_, rfl⟩
        have hz4 : D3.size ≤ 19 := by rw [← hD3]; exact intText_size _
        have hz5 : D4.size ≤ 70 := by rw [← hD4]; exact insT_size o1 o2 o3
        have hz6 : ac.size ≤ 4000000 := by
          rw [HK.out]
          have h1 := lnsA_size (l := f.Ins.take k) (fun y hy => HS3.out y (List.mem_of_mem_take hy)) ac1 0
          have h2 : (f.Ins.take k).length ≤ 1500 := by rw [List.length_take]; omega
          omega
        have HC3 : Hid (∀ V : World, Calls Tryd.prog 12 #[.int .i64 k] V fun e w' => e = .returned (.string D3) ∧ Below V.heap.size V w') := fun V => by rw [← hD3]; exact specInt_any k V (by omega) (by omega)
        have HC4 : Hid (∀ V : World, Calls Tryd.prog 13 #[.agg #[.int .i64 x.Op, .int .i64 x.N, .string x.S, .int .i64 x.To]] V fun e w' => e = .returned (.string D4) ∧ Below V.heap.size V w') := fun V => by rw [← hD4]; exact l9Text_any x.Op x.N x.S x.To V o1 o2 o3 o4 o5 o6 o7
        have HNX : Hid ((((ac ++ D3) ++ ⟨#[32]⟩) ++ D4) ++ ⟨#[10]⟩ = lnsA ac1 0 (f.Ins.take (k + 1))) := by
          show _ = _
          rw [lnsA_take ac1 f.Ins 0 k x hx, ← HK.out, Nat.zero_add]
          unfold lnA
          rw [hD3, hD4]
        clear hx hxm o1 o2 o3 o4 o5 o6 o7 hD3 hD4
        go_wp2_with fail
        have hn0' := After.some wr
        have p0 := After.cell v3
        have p1 := After.cell i0
        have p2 := After.cell i1
        have p3 := After.cell i2
        have p4 := After.cell i3
        refine wp_region_after (by kernel_rfl) (by kernel_rfl) ?_
        repeat (go_big_quiet_step (first | (go_at_call 12; with_reducible exact calls_after (HC3.out _)) | (go_at_call 13; with_reducible exact calls_after (HC4.out _))))
        refine wpQuiet_nil ?_
        rintro _ ⟨nq, rfl⟩
        have HB9 : Hid (Below X.heap.size X nq.now) := HBk.out.trans (nq.bel.mono HBk.out.size)
        clear p0 p1 p2 p3 p4 hn0' i0 i1 i2 i3 v3 HC3 HC4
        go_wp2_with fail
        go_roundw
        case rel => exact ⟨k + 1, _, by omega, by go_num, rfl, HNX, HB9⟩
        case measure => simp [intOf]; omega
      · obtain rfl : k = li := by omega
        have hkl' : decide ((k : Int) < (k : Int)) = false := by simp
        have HF : Hid (ac = cdA ⟨#[]⟩ (c.Fns.take (j + 1))) := by
          show _ = _
          rw [cdA_take _ _ _ _ HFX.out, ← HAC.out, HK.out, List.take_of_length_le (by have := HLI.out; omega), ← HA1.out]
          rfl
        have HB9 : Hid (Below V.heap.size V wr) := HXB.out.1.trans (HBk.out.mono HXB.out.1.size)
        clear HK hkl
        go_wp2_with fail
        go_roundw
        case rel => exact ⟨j + 1, ac, by omega, by go_num, rfl, HF, HB9⟩
        case measure => simp [intOf]; omega

end Go.Proofs.YtfjneifgjdjbiaaDoor
