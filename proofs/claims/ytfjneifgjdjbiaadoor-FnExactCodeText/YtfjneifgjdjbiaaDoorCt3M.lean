/- The text of code: the program's. -/
import Derived.Test.YtfjneifgjdjbiaaDoorCt1M
import Derived.Test.YtfjneifgjdjbiaaDoorCk10M
import Derived.Test.YtfjneifgjdjbiaaDoorDr1M
import Derived.Test.YtfjneifgjdjbiaaDoorQTailM
namespace Go.Proofs.YtfjneifgjdjbiaaDoor
open Go.RowKit
set_option linter.unusedVariables false

theorem BoxKept.then {b : Nat} {w w' w'' : World} (h : BoxKept b w w') (k : BoxKept b w' w'') : BoxKept b w w'' := fun g cs T fz h1 h2 h3 => k g cs T fz h1 h2 (h g cs T fz h1 h2 h3)
theorem BoxKept.below {b : Nat} {w w' : World} (h : Below w.heap.size w w') : BoxKept b w w' := fun g cs T fz _ _ h3 => (h.block g (lt_row h3)).trans h3
theorem Bd.lt {w0 : World} {b : Nat} {l : List UInt8} {w : World} (h : Bd w0 b l w) : b < w.heap.size := by
  rcases h.1 with ⟨_, v, q1, _⟩ | ⟨_, v, q1, _⟩ <;> exact (Array.getElem?_eq_some_iff.1 q1).1

set_option maxRecDepth 100000 in
set_option maxHeartbeats 2000000 in
theorem insText_1 (n : Int) (s : ByteArray) (tq : Int) (w : World) (hsh : ShOk w) (htb : TabOk w) (hs : s.size ≤ 20) (hn0 : 0 ≤ n) (hn1 : n ≤ 1000000000000) (ht0 : 0 ≤ tq) (ht1 : tq ≤ 1500) (R : ByteArray) (hR : R = insT 1 n s tq) :
    Calls Tryd.prog 19 #[.agg #[.int .i64 1, .int .i64 n, .string s, .int .i64 tq]] w fun e w' => e = .returned (.string R) ∧ Below w.heap.size w w' := by
  rw [← insTP1] at hR
  have HR : Hid (R = ((⟨#[105, 110, 116]⟩ : ByteArray) ++ (⟨#[32]⟩ ++ intText n))) := hR
  have hsz : 0 < w.heap.size := World.block_lt_of_cell? w _ (hsh 0 _ rfl)
  have t0 : w.cell? ⟨0, 4, none⟩ = some (.string ⟨#[105, 110, 116]⟩) := hsh 4 _ rfl
  have t1 : w.cell? ⟨0, 5, none⟩ = some (.bool false) := hsh 5 _ rfl
  have t2 : w.cell? ⟨0, 6, none⟩ = some (.bool true) := hsh 6 _ rfl
  have t3 : w.cell? ⟨0, 7, none⟩ = some (.bool false) := hsh 7 _ rfl
  obtain ⟨W, hW⟩ : ∃ W, W = (w.alloc (.cells #[.int .i64 1, .int .i64 n, .string s, .int .i64 tq] 44)).alloc (.cells #[.string ⟨#[105, 110, 116]⟩, .bool false, .bool true, .bool false] 73) := ⟨_, rfl⟩
  have hA : Below w.heap.size w W := by rw [hW]; exact ((Below.refl _ _).alloc (Nat.le_refl _) _).alloc (by simp) _
  have nB : W.heap[w.heap.size + 1]? = some (.cells #[.string ⟨#[105, 110, 116]⟩, .bool false, .bool true, .bool false] 73 (0, 0)) := by
    rw [hW, show w.heap.size + 1 = (w.alloc (.cells #[.int .i64 1, .int .i64 n, .string s, .int .i64 tq] 44)).heap.size from by simp]; exact heap_alloc_new _ _
  have nA : W.heap[w.heap.size]? = some (.cells #[.int .i64 1, .int .i64 n, .string s, .int .i64 tq] 44 (0, 0)) := by
    rw [hW, (((Below.refl _ _).alloc (Nat.le_refl _) _).block w.heap.size (by simp))]; exact heap_alloc_new _ _
  have HA : Hid (Below w.heap.size w W) := hA
  obtain ⟨D1, hD1⟩ : ∃ D, intText n = D := ⟨_, rfl⟩
  have hz1 : D1.size ≤ 19 := by rw [← hD1]; exact intText_size n
  have HC1 : Hid (∀ V : World, Below w.heap.size w V → Calls Tryd.prog 18 #[.int .i64 n] V fun e w' => e = .returned (.string D1) ∧ Below V.heap.size V w') := fun V hV => by rw [← hD1]; exact itoa_any n V (by omega) (by omega) (htb.later hV)
  rw [hD1] at HR
  clear hR hA hsh htb hD1 
  have HN : Hid (W.heap[w.heap.size]? = some (.cells #[.int .i64 1, .int .i64 n, .string s, .int .i64 tq] 44 (0, 0)) ∧ W.heap[w.heap.size + 1]? = some (.cells #[.string ⟨#[105, 110, 116]⟩, .bool false, .bool true, .bool false] 73 (0, 0))) := ⟨nA, nB⟩
  have hC := HC1.out W HA.out
  rw [hW] at hC
  have HW : Hid (W = _) := hW
  clear nA nB hW
  go_enter Tryd.func19, Tryd.ntmps19
  go_wp2_with fail
  refine hC.mono ?_
  clear hC t0 t1 t2 t3
  rintro e V ⟨rfl, hB⟩
  rw [← HW.out] at hB
  have HB : Hid (Below w.heap.size w V) := HA.out.trans (hB.mono HA.out.size)
  have mA := (hB.block _ (lt_row HN.out.1)).trans HN.out.1
  have mB := (hB.block _ (lt_row HN.out.2)).trans HN.out.2
  have y3 : V.cell? ⟨w.heap.size, 3, none⟩ = some (.int .i64 tq) := by rw [cell_of_row V _ 3 _ _ _ mA]; rfl
  have z3 : V.cell? ⟨w.heap.size + 1, 3, none⟩ = some (.bool false) := by rw [cell_of_row V _ 3 _ _ _ mB]; rfl
  clear hB mA mB HW HN
  go_wp2_with fail
  go_ret
  exact ⟨by rw [HR.out]; rfl, HB.out⟩

set_option maxRecDepth 100000 in
set_option maxHeartbeats 2000000 in
theorem insText_2 (n : Int) (s : ByteArray) (tq : Int) (w : World) (hsh : ShOk w) (htb : TabOk w) (hs : s.size ≤ 20) (hn0 : 0 ≤ n) (hn1 : n ≤ 1000000000000) (ht0 : 0 ≤ tq) (ht1 : tq ≤ 1500) (R : ByteArray) (hR : R = insT 2 n s tq) :
    Calls Tryd.prog 19 #[.agg #[.int .i64 2, .int .i64 n, .string s, .int .i64 tq]] w fun e w' => e = .returned (.string R) ∧ Below w.heap.size w w' := by
  rw [← insTP2] at hR
  have HR : Hid (R = ((⟨#[97, 116, 111, 109]⟩ : ByteArray) ++ (⟨#[32]⟩ ++ s))) := hR
  have hsz : 0 < w.heap.size := World.block_lt_of_cell? w _ (hsh 0 _ rfl)
  have t0 : w.cell? ⟨0, 8, none⟩ = some (.string ⟨#[97, 116, 111, 109]⟩) := hsh 8 _ rfl
  have t1 : w.cell? ⟨0, 9, none⟩ = some (.bool true) := hsh 9 _ rfl
  have t2 : w.cell? ⟨0, 10, none⟩ = some (.bool false) := hsh 10 _ rfl
  have t3 : w.cell? ⟨0, 11, none⟩ = some (.bool false) := hsh 11 _ rfl
  obtain ⟨W, hW⟩ : ∃ W, W = (w.alloc (.cells #[.int .i64 2, .int .i64 n, .string s, .int .i64 tq] 44)).alloc (.cells #[.string ⟨#[97, 116, 111, 109]⟩, .bool true, .bool false, .bool false] 73) := ⟨_, rfl⟩
  have hA : Below w.heap.size w W := by rw [hW]; exact ((Below.refl _ _).alloc (Nat.le_refl _) _).alloc (by simp) _
  have nB : W.heap[w.heap.size + 1]? = some (.cells #[.string ⟨#[97, 116, 111, 109]⟩, .bool true, .bool false, .bool false] 73 (0, 0)) := by
    rw [hW, show w.heap.size + 1 = (w.alloc (.cells #[.int .i64 2, .int .i64 n, .string s, .int .i64 tq] 44)).heap.size from by simp]; exact heap_alloc_new _ _
  have nA : W.heap[w.heap.size]? = some (.cells #[.int .i64 2, .int .i64 n, .string s, .int .i64 tq] 44 (0, 0)) := by
    rw [hW, (((Below.refl _ _).alloc (Nat.le_refl _) _).block w.heap.size (by simp))]; exact heap_alloc_new _ _
  have HA : Hid (Below w.heap.size w W) := hA
  clear hR hA hsh htb 
  rw [hW] at HA
  clear nA nB
  go_enter Tryd.func19, Tryd.ntmps19
  go_wp2_with fail
  go_ret
  exact ⟨by rw [HR.out]; rfl, HA.out⟩

set_option maxRecDepth 100000 in
set_option maxHeartbeats 2000000 in
theorem insText_3 (n : Int) (s : ByteArray) (tq : Int) (w : World) (hsh : ShOk w) (htb : TabOk w) (hs : s.size ≤ 20) (hn0 : 0 ≤ n) (hn1 : n ≤ 1000000000000) (ht0 : 0 ≤ tq) (ht1 : tq ≤ 1500) (R : ByteArray) (hR : R = insT 3 n s tq) :
    Calls Tryd.prog 19 #[.agg #[.int .i64 3, .int .i64 n, .string s, .int .i64 tq]] w fun e w' => e = .returned (.string R) ∧ Below w.heap.size w w' := by
  rw [← insTP3] at hR
  have HR : Hid (R = ((⟨#[108, 111, 97, 100]⟩ : ByteArray) ++ (⟨#[32]⟩ ++ intText n))) := hR
  have hsz : 0 < w.heap.size := World.block_lt_of_cell? w _ (hsh 0 _ rfl)
  have t0 : w.cell? ⟨0, 12, none⟩ = some (.string ⟨#[108, 111, 97, 100]⟩) := hsh 12 _ rfl
  have t1 : w.cell? ⟨0, 13, none⟩ = some (.bool false) := hsh 13 _ rfl
  have t2 : w.cell? ⟨0, 14, none⟩ = some (.bool true) := hsh 14 _ rfl
  have t3 : w.cell? ⟨0, 15, none⟩ = some (.bool false) := hsh 15 _ rfl
  obtain ⟨W, hW⟩ : ∃ W, W = (w.alloc (.cells #[.int .i64 3, .int .i64 n, .string s, .int .i64 tq] 44)).alloc (.cells #[.string ⟨#[108, 111, 97, 100]⟩, .bool false, .bool true, .bool false] 73) := ⟨_, rfl⟩
  have hA : Below w.heap.size w W := by rw [hW]; exact ((Below.refl _ _).alloc (Nat.le_refl _) _).alloc (by simp) _
  have nB : W.heap[w.heap.size + 1]? = some (.cells #[.string ⟨#[108, 111, 97, 100]⟩, .bool false, .bool true, .bool false] 73 (0, 0)) := by
    rw [hW, show w.heap.size + 1 = (w.alloc (.cells #[.int .i64 3, .int .i64 n, .string s, .int .i64 tq] 44)).heap.size from by simp]; exact heap_alloc_new _ _
  have nA : W.heap[w.heap.size]? = some (.cells #[.int .i64 3, .int .i64 n, .string s, .int .i64 tq] 44 (0, 0)) := by
    rw [hW, (((Below.refl _ _).alloc (Nat.le_refl _) _).block w.heap.size (by simp))]; exact heap_alloc_new _ _
  have HA : Hid (Below w.heap.size w W) := hA
  obtain ⟨D1, hD1⟩ : ∃ D, intText n = D := ⟨_, rfl⟩
  have hz1 : D1.size ≤ 19 := by rw [← hD1]; exact intText_size n
  have HC1 : Hid (∀ V : World, Below w.heap.size w V → Calls Tryd.prog 18 #[.int .i64 n] V fun e w' => e = .returned (.string D1) ∧ Below V.heap.size V w') := fun V hV => by rw [← hD1]; exact itoa_any n V (by omega) (by omega) (htb.later hV)
  rw [hD1] at HR
  clear hR hA hsh htb hD1 
  have HN : Hid (W.heap[w.heap.size]? = some (.cells #[.int .i64 3, .int .i64 n, .string s, .int .i64 tq] 44 (0, 0)) ∧ W.heap[w.heap.size + 1]? = some (.cells #[.string ⟨#[108, 111, 97, 100]⟩, .bool false, .bool true, .bool false] 73 (0, 0))) := ⟨nA, nB⟩
  have hC := HC1.out W HA.out
  rw [hW] at hC
  have HW : Hid (W = _) := hW
  clear nA nB hW
  go_enter Tryd.func19, Tryd.ntmps19
  go_wp2_with fail
  refine hC.mono ?_
  clear hC t0 t1 t2 t3
  rintro e V ⟨rfl, hB⟩
  rw [← HW.out] at hB
  have HB : Hid (Below w.heap.size w V) := HA.out.trans (hB.mono HA.out.size)
  have mA := (hB.block _ (lt_row HN.out.1)).trans HN.out.1
  have mB := (hB.block _ (lt_row HN.out.2)).trans HN.out.2
  have y3 : V.cell? ⟨w.heap.size, 3, none⟩ = some (.int .i64 tq) := by rw [cell_of_row V _ 3 _ _ _ mA]; rfl
  have z3 : V.cell? ⟨w.heap.size + 1, 3, none⟩ = some (.bool false) := by rw [cell_of_row V _ 3 _ _ _ mB]; rfl
  clear hB mA mB HW HN
  go_wp2_with fail
  go_ret
  exact ⟨by rw [HR.out]; rfl, HB.out⟩

set_option maxRecDepth 100000 in
set_option maxHeartbeats 2000000 in
theorem insText_4 (n : Int) (s : ByteArray) (tq : Int) (w : World) (hsh : ShOk w) (htb : TabOk w) (hs : s.size ≤ 20) (hn0 : 0 ≤ n) (hn1 : n ≤ 1000000000000) (ht0 : 0 ≤ tq) (ht1 : tq ≤ 1500) (R : ByteArray) (hR : R = insT 4 n s tq) :
    Calls Tryd.prog 19 #[.agg #[.int .i64 4, .int .i64 n, .string s, .int .i64 tq]] w fun e w' => e = .returned (.string R) ∧ Below w.heap.size w w' := by
  rw [← insTP4] at hR
  have HR : Hid (R = ((⟨#[116, 117, 112, 108, 101]⟩ : ByteArray) ++ (⟨#[32]⟩ ++ intText n))) := hR
  have hsz : 0 < w.heap.size := World.block_lt_of_cell? w _ (hsh 0 _ rfl)
  have t0 : w.cell? ⟨0, 16, none⟩ = some (.string ⟨#[116, 117, 112, 108, 101]⟩) := hsh 16 _ rfl
  have t1 : w.cell? ⟨0, 17, none⟩ = some (.bool false) := hsh 17 _ rfl
  have t2 : w.cell? ⟨0, 18, none⟩ = some (.bool true) := hsh 18 _ rfl
  have t3 : w.cell? ⟨0, 19, none⟩ = some (.bool false) := hsh 19 _ rfl
  obtain ⟨W, hW⟩ : ∃ W, W = (w.alloc (.cells #[.int .i64 4, .int .i64 n, .string s, .int .i64 tq] 44)).alloc (.cells #[.string ⟨#[116, 117, 112, 108, 101]⟩, .bool false, .bool true, .bool false] 73) := ⟨_, rfl⟩
  have hA : Below w.heap.size w W := by rw [hW]; exact ((Below.refl _ _).alloc (Nat.le_refl _) _).alloc (by simp) _
  have nB : W.heap[w.heap.size + 1]? = some (.cells #[.string ⟨#[116, 117, 112, 108, 101]⟩, .bool false, .bool true, .bool false] 73 (0, 0)) := by
    rw [hW, show w.heap.size + 1 = (w.alloc (.cells #[.int .i64 4, .int .i64 n, .string s, .int .i64 tq] 44)).heap.size from by simp]; exact heap_alloc_new _ _
  have nA : W.heap[w.heap.size]? = some (.cells #[.int .i64 4, .int .i64 n, .string s, .int .i64 tq] 44 (0, 0)) := by
    rw [hW, (((Below.refl _ _).alloc (Nat.le_refl _) _).block w.heap.size (by simp))]; exact heap_alloc_new _ _
  have HA : Hid (Below w.heap.size w W) := hA
  obtain ⟨D1, hD1⟩ : ∃ D, intText n = D := ⟨_, rfl⟩
  have hz1 : D1.size ≤ 19 := by rw [← hD1]; exact intText_size n
  have HC1 : Hid (∀ V : World, Below w.heap.size w V → Calls Tryd.prog 18 #[.int .i64 n] V fun e w' => e = .returned (.string D1) ∧ Below V.heap.size V w') := fun V hV => by rw [← hD1]; exact itoa_any n V (by omega) (by omega) (htb.later hV)
  rw [hD1] at HR
  clear hR hA hsh htb hD1 
  have HN : Hid (W.heap[w.heap.size]? = some (.cells #[.int .i64 4, .int .i64 n, .string s, .int .i64 tq] 44 (0, 0)) ∧ W.heap[w.heap.size + 1]? = some (.cells #[.string ⟨#[116, 117, 112, 108, 101]⟩, .bool false, .bool true, .bool false] 73 (0, 0))) := ⟨nA, nB⟩
  have hC := HC1.out W HA.out
  rw [hW] at hC
  have HW : Hid (W = _) := hW
  clear nA nB hW
  go_enter Tryd.func19, Tryd.ntmps19
  go_wp2_with fail
  refine hC.mono ?_
  clear hC t0 t1 t2 t3
  rintro e V ⟨rfl, hB⟩
  rw [← HW.out] at hB
  have HB : Hid (Below w.heap.size w V) := HA.out.trans (hB.mono HA.out.size)
  have mA := (hB.block _ (lt_row HN.out.1)).trans HN.out.1
  have mB := (hB.block _ (lt_row HN.out.2)).trans HN.out.2
  have y3 : V.cell? ⟨w.heap.size, 3, none⟩ = some (.int .i64 tq) := by rw [cell_of_row V _ 3 _ _ _ mA]; rfl
  have z3 : V.cell? ⟨w.heap.size + 1, 3, none⟩ = some (.bool false) := by rw [cell_of_row V _ 3 _ _ _ mB]; rfl
  clear hB mA mB HW HN
  go_wp2_with fail
  go_ret
  exact ⟨by rw [HR.out]; rfl, HB.out⟩

set_option maxRecDepth 100000 in
set_option maxHeartbeats 2000000 in
theorem insText_5 (n : Int) (s : ByteArray) (tq : Int) (w : World) (hsh : ShOk w) (htb : TabOk w) (hs : s.size ≤ 20) (hn0 : 0 ≤ n) (hn1 : n ≤ 1000000000000) (ht0 : 0 ≤ tq) (ht1 : tq ≤ 1500) (R : ByteArray) (hR : R = insT 5 n s tq) :
    Calls Tryd.prog 19 #[.agg #[.int .i64 5, .int .i64 n, .string s, .int .i64 tq]] w fun e w' => e = .returned (.string R) ∧ Below w.heap.size w w' := by
  rw [← insTP5] at hR
  have HR : Hid (R = ((⟨#[108, 105, 115, 116]⟩ : ByteArray) ++ (⟨#[32]⟩ ++ intText n))) := hR
  have hsz : 0 < w.heap.size := World.block_lt_of_cell? w _ (hsh 0 _ rfl)
  have t0 : w.cell? ⟨0, 20, none⟩ = some (.string ⟨#[108, 105, 115, 116]⟩) := hsh 20 _ rfl
  have t1 : w.cell? ⟨0, 21, none⟩ = some (.bool false) := hsh 21 _ rfl
  have t2 : w.cell? ⟨0, 22, none⟩ = some (.bool true) := hsh 22 _ rfl
  have t3 : w.cell? ⟨0, 23, none⟩ = some (.bool false) := hsh 23 _ rfl
  obtain ⟨W, hW⟩ : ∃ W, W = (w.alloc (.cells #[.int .i64 5, .int .i64 n, .string s, .int .i64 tq] 44)).alloc (.cells #[.string ⟨#[108, 105, 115, 116]⟩, .bool false, .bool true, .bool false] 73) := ⟨_, rfl⟩
  have hA : Below w.heap.size w W := by rw [hW]; exact ((Below.refl _ _).alloc (Nat.le_refl _) _).alloc (by simp) _
  have nB : W.heap[w.heap.size + 1]? = some (.cells #[.string ⟨#[108, 105, 115, 116]⟩, .bool false, .bool true, .bool false] 73 (0, 0)) := by
    rw [hW, show w.heap.size + 1 = (w.alloc (.cells #[.int .i64 5, .int .i64 n, .string s, .int .i64 tq] 44)).heap.size from by simp]; exact heap_alloc_new _ _
  have nA : W.heap[w.heap.size]? = some (.cells #[.int .i64 5, .int .i64 n, .string s, .int .i64 tq] 44 (0, 0)) := by
    rw [hW, (((Below.refl _ _).alloc (Nat.le_refl _) _).block w.heap.size (by simp))]; exact heap_alloc_new _ _
  have HA : Hid (Below w.heap.size w W) := hA
  obtain ⟨D1, hD1⟩ : ∃ D, intText n = D := ⟨_, rfl⟩
  have hz1 : D1.size ≤ 19 := by rw [← hD1]; exact intText_size n
  have HC1 : Hid (∀ V : World, Below w.heap.size w V → Calls Tryd.prog 18 #[.int .i64 n] V fun e w' => e = .returned (.string D1) ∧ Below V.heap.size V w') := fun V hV => by rw [← hD1]; exact itoa_any n V (by omega) (by omega) (htb.later hV)
  rw [hD1] at HR
  clear hR hA hsh htb hD1 
  have HN : Hid (W.heap[w.heap.size]? = some (.cells #[.int .i64 5, .int .i64 n, .string s, .int .i64 tq] 44 (0, 0)) ∧ W.heap[w.heap.size + 1]? = some (.cells #[.string ⟨#[108, 105, 115, 116]⟩, .bool false, .bool true, .bool false] 73 (0, 0))) := ⟨nA, nB⟩
  have hC := HC1.out W HA.out
  rw [hW] at hC
  have HW : Hid (W = _) := hW
  clear nA nB hW
  go_enter Tryd.func19, Tryd.ntmps19
  go_wp2_with fail
  refine hC.mono ?_
  clear hC t0 t1 t2 t3
  rintro e V ⟨rfl, hB⟩
  rw [← HW.out] at hB
  have HB : Hid (Below w.heap.size w V) := HA.out.trans (hB.mono HA.out.size)
  have mA := (hB.block _ (lt_row HN.out.1)).trans HN.out.1
  have mB := (hB.block _ (lt_row HN.out.2)).trans HN.out.2
  have y3 : V.cell? ⟨w.heap.size, 3, none⟩ = some (.int .i64 tq) := by rw [cell_of_row V _ 3 _ _ _ mA]; rfl
  have z3 : V.cell? ⟨w.heap.size + 1, 3, none⟩ = some (.bool false) := by rw [cell_of_row V _ 3 _ _ _ mB]; rfl
  clear hB mA mB HW HN
  go_wp2_with fail
  go_ret
  exact ⟨by rw [HR.out]; rfl, HB.out⟩

set_option maxRecDepth 100000 in
set_option maxHeartbeats 2000000 in
theorem insText_6 (n : Int) (s : ByteArray) (tq : Int) (w : World) (hsh : ShOk w) (htb : TabOk w) (hs : s.size ≤ 20) (hn0 : 0 ≤ n) (hn1 : n ≤ 1000000000000) (ht0 : 0 ≤ tq) (ht1 : tq ≤ 1500) (R : ByteArray) (hR : R = insT 6 n s tq) :
    Calls Tryd.prog 19 #[.agg #[.int .i64 6, .int .i64 n, .string s, .int .i64 tq]] w fun e w' => e = .returned (.string R) ∧ Below w.heap.size w w' := by
  rw [← insTP6] at hR
  have HR : Hid (R = ((⟨#[99, 111, 110, 115]⟩ : ByteArray) ++ (⟨#[32]⟩ ++ intText n))) := hR
  have hsz : 0 < w.heap.size := World.block_lt_of_cell? w _ (hsh 0 _ rfl)
  have t0 : w.cell? ⟨0, 24, none⟩ = some (.string ⟨#[99, 111, 110, 115]⟩) := hsh 24 _ rfl
  have t1 : w.cell? ⟨0, 25, none⟩ = some (.bool false) := hsh 25 _ rfl
  have t2 : w.cell? ⟨0, 26, none⟩ = some (.bool true) := hsh 26 _ rfl
  have t3 : w.cell? ⟨0, 27, none⟩ = some (.bool false) := hsh 27 _ rfl
  obtain ⟨W, hW⟩ : ∃ W, W = (w.alloc (.cells #[.int .i64 6, .int .i64 n, .string s, .int .i64 tq] 44)).alloc (.cells #[.string ⟨#[99, 111, 110, 115]⟩, .bool false, .bool true, .bool false] 73) := ⟨_, rfl⟩
  have hA : Below w.heap.size w W := by rw [hW]; exact ((Below.refl _ _).alloc (Nat.le_refl _) _).alloc (by simp) _
  have nB : W.heap[w.heap.size + 1]? = some (.cells #[.string ⟨#[99, 111, 110, 115]⟩, .bool false, .bool true, .bool false] 73 (0, 0)) := by
    rw [hW, show w.heap.size + 1 = (w.alloc (.cells #[.int .i64 6, .int .i64 n, .string s, .int .i64 tq] 44)).heap.size from by simp]; exact heap_alloc_new _ _
  have nA : W.heap[w.heap.size]? = some (.cells #[.int .i64 6, .int .i64 n, .string s, .int .i64 tq] 44 (0, 0)) := by
    rw [hW, (((Below.refl _ _).alloc (Nat.le_refl _) _).block w.heap.size (by simp))]; exact heap_alloc_new _ _
  have HA : Hid (Below w.heap.size w W) := hA
  obtain ⟨D1, hD1⟩ : ∃ D, intText n = D := ⟨_, rfl⟩
  have hz1 : D1.size ≤ 19 := by rw [← hD1]; exact intText_size n
  have HC1 : Hid (∀ V : World, Below w.heap.size w V → Calls Tryd.prog 18 #[.int .i64 n] V fun e w' => e = .returned (.string D1) ∧ Below V.heap.size V w') := fun V hV => by rw [← hD1]; exact itoa_any n V (by omega) (by omega) (htb.later hV)
  rw [hD1] at HR
  clear hR hA hsh htb hD1 
  have HN : Hid (W.heap[w.heap.size]? = some (.cells #[.int .i64 6, .int .i64 n, .string s, .int .i64 tq] 44 (0, 0)) ∧ W.heap[w.heap.size + 1]? = some (.cells #[.string ⟨#[99, 111, 110, 115]⟩, .bool false, .bool true, .bool false] 73 (0, 0))) := ⟨nA, nB⟩
  have hC := HC1.out W HA.out
  rw [hW] at hC
  have HW : Hid (W = _) := hW
  clear nA nB hW
  go_enter Tryd.func19, Tryd.ntmps19
  go_wp2_with fail
  refine hC.mono ?_
  clear hC t0 t1 t2 t3
  rintro e V ⟨rfl, hB⟩
  rw [← HW.out] at hB
  have HB : Hid (Below w.heap.size w V) := HA.out.trans (hB.mono HA.out.size)
  have mA := (hB.block _ (lt_row HN.out.1)).trans HN.out.1
  have mB := (hB.block _ (lt_row HN.out.2)).trans HN.out.2
  have y3 : V.cell? ⟨w.heap.size, 3, none⟩ = some (.int .i64 tq) := by rw [cell_of_row V _ 3 _ _ _ mA]; rfl
  have z3 : V.cell? ⟨w.heap.size + 1, 3, none⟩ = some (.bool false) := by rw [cell_of_row V _ 3 _ _ _ mB]; rfl
  clear hB mA mB HW HN
  go_wp2_with fail
  go_ret
  exact ⟨by rw [HR.out]; rfl, HB.out⟩

set_option maxRecDepth 100000 in
set_option maxHeartbeats 2000000 in
theorem insText_7 (n : Int) (s : ByteArray) (tq : Int) (w : World) (hsh : ShOk w) (htb : TabOk w) (hs : s.size ≤ 20) (hn0 : 0 ≤ n) (hn1 : n ≤ 1000000000000) (ht0 : 0 ≤ tq) (ht1 : tq ≤ 1500) (R : ByteArray) (hR : R = insT 7 n s tq) :
    Calls Tryd.prog 19 #[.agg #[.int .i64 7, .int .i64 n, .string s, .int .i64 tq]] w fun e w' => e = .returned (.string R) ∧ Below w.heap.size w w' := by
  rw [← insTP7] at hR
  have HR : Hid (R = ((⟨#[111, 112]⟩ : ByteArray) ++ (⟨#[32]⟩ ++ s))) := hR
  have hsz : 0 < w.heap.size := World.block_lt_of_cell? w _ (hsh 0 _ rfl)
  have t0 : w.cell? ⟨0, 28, none⟩ = some (.string ⟨#[111, 112]⟩) := hsh 28 _ rfl
  have t1 : w.cell? ⟨0, 29, none⟩ = some (.bool true) := hsh 29 _ rfl
  have t2 : w.cell? ⟨0, 30, none⟩ = some (.bool false) := hsh 30 _ rfl
  have t3 : w.cell? ⟨0, 31, none⟩ = some (.bool false) := hsh 31 _ rfl
  obtain ⟨W, hW⟩ : ∃ W, W = (w.alloc (.cells #[.int .i64 7, .int .i64 n, .string s, .int .i64 tq] 44)).alloc (.cells #[.string ⟨#[111, 112]⟩, .bool true, .bool false, .bool false] 73) := ⟨_, rfl⟩
  have hA : Below w.heap.size w W := by rw [hW]; exact ((Below.refl _ _).alloc (Nat.le_refl _) _).alloc (by simp) _
  have nB : W.heap[w.heap.size + 1]? = some (.cells #[.string ⟨#[111, 112]⟩, .bool true, .bool false, .bool false] 73 (0, 0)) := by
    rw [hW, show w.heap.size + 1 = (w.alloc (.cells #[.int .i64 7, .int .i64 n, .string s, .int .i64 tq] 44)).heap.size from by simp]; exact heap_alloc_new _ _
  have nA : W.heap[w.heap.size]? = some (.cells #[.int .i64 7, .int .i64 n, .string s, .int .i64 tq] 44 (0, 0)) := by
    rw [hW, (((Below.refl _ _).alloc (Nat.le_refl _) _).block w.heap.size (by simp))]; exact heap_alloc_new _ _
  have HA : Hid (Below w.heap.size w W) := hA
  clear hR hA hsh htb 
  rw [hW] at HA
  clear nA nB
  go_enter Tryd.func19, Tryd.ntmps19
  go_wp2_with fail
  go_ret
  exact ⟨by rw [HR.out]; rfl, HA.out⟩

set_option maxRecDepth 100000 in
set_option maxHeartbeats 2000000 in
theorem insText_8 (n : Int) (s : ByteArray) (tq : Int) (w : World) (hsh : ShOk w) (htb : TabOk w) (hs : s.size ≤ 20) (hn0 : 0 ≤ n) (hn1 : n ≤ 1000000000000) (ht0 : 0 ≤ tq) (ht1 : tq ≤ 1500) (R : ByteArray) (hR : R = insT 8 n s tq) :
    Calls Tryd.prog 19 #[.agg #[.int .i64 8, .int .i64 n, .string s, .int .i64 tq]] w fun e w' => e = .returned (.string R) ∧ Below w.heap.size w w' := by
  rw [← insTP8] at hR
  have HR : Hid (R = (((⟨#[99, 97, 108, 108]⟩ : ByteArray) ++ (⟨#[32]⟩ ++ s)) ++ (⟨#[32]⟩ ++ intText n))) := hR
  have hsz : 0 < w.heap.size := World.block_lt_of_cell? w _ (hsh 0 _ rfl)
  have t0 : w.cell? ⟨0, 32, none⟩ = some (.string ⟨#[99, 97, 108, 108]⟩) := hsh 32 _ rfl
  have t1 : w.cell? ⟨0, 33, none⟩ = some (.bool true) := hsh 33 _ rfl
  have t2 : w.cell? ⟨0, 34, none⟩ = some (.bool true) := hsh 34 _ rfl
  have t3 : w.cell? ⟨0, 35, none⟩ = some (.bool false) := hsh 35 _ rfl
  obtain ⟨W, hW⟩ : ∃ W, W = (w.alloc (.cells #[.int .i64 8, .int .i64 n, .string s, .int .i64 tq] 44)).alloc (.cells #[.string ⟨#[99, 97, 108, 108]⟩, .bool true, .bool true, .bool false] 73) := ⟨_, rfl⟩
  have hA : Below w.heap.size w W := by rw [hW]; exact ((Below.refl _ _).alloc (Nat.le_refl _) _).alloc (by simp) _
  have nB : W.heap[w.heap.size + 1]? = some (.cells #[.string ⟨#[99, 97, 108, 108]⟩, .bool true, .bool true, .bool false] 73 (0, 0)) := by
    rw [hW, show w.heap.size + 1 = (w.alloc (.cells #[.int .i64 8, .int .i64 n, .string s, .int .i64 tq] 44)).heap.size from by simp]; exact heap_alloc_new _ _
  have nA : W.heap[w.heap.size]? = some (.cells #[.int .i64 8, .int .i64 n, .string s, .int .i64 tq] 44 (0, 0)) := by
    rw [hW, (((Below.refl _ _).alloc (Nat.le_refl _) _).block w.heap.size (by simp))]; exact heap_alloc_new _ _
  have HA : Hid (Below w.heap.size w W) := hA
  obtain ⟨D1, hD1⟩ : ∃ D, intText n = D := ⟨_, rfl⟩
  have hz1 : D1.size ≤ 19 := by rw [← hD1]; exact intText_size n
  have HC1 : Hid (∀ V : World, Below w.heap.size w V → Calls Tryd.prog 18 #[.int .i64 n] V fun e w' => e = .returned (.string D1) ∧ Below V.heap.size V w') := fun V hV => by rw [← hD1]; exact itoa_any n V (by omega) (by omega) (htb.later hV)
  rw [hD1] at HR
  clear hR hA hsh htb hD1 
  have HN : Hid (W.heap[w.heap.size]? = some (.cells #[.int .i64 8, .int .i64 n, .string s, .int .i64 tq] 44 (0, 0)) ∧ W.heap[w.heap.size + 1]? = some (.cells #[.string ⟨#[99, 97, 108, 108]⟩, .bool true, .bool true, .bool false] 73 (0, 0))) := ⟨nA, nB⟩
  have hC := HC1.out W HA.out
  rw [hW] at hC
  have HW : Hid (W = _) := hW
  clear nA nB hW
  go_enter Tryd.func19, Tryd.ntmps19
  go_wp2_with fail
  refine hC.mono ?_
  clear hC t0 t1 t2 t3
  rintro e V ⟨rfl, hB⟩
  rw [← HW.out] at hB
  have HB : Hid (Below w.heap.size w V) := HA.out.trans (hB.mono HA.out.size)
  have mA := (hB.block _ (lt_row HN.out.1)).trans HN.out.1
  have mB := (hB.block _ (lt_row HN.out.2)).trans HN.out.2
  have y3 : V.cell? ⟨w.heap.size, 3, none⟩ = some (.int .i64 tq) := by rw [cell_of_row V _ 3 _ _ _ mA]; rfl
  have z3 : V.cell? ⟨w.heap.size + 1, 3, none⟩ = some (.bool false) := by rw [cell_of_row V _ 3 _ _ _ mB]; rfl
  clear hB mA mB HW HN
  go_wp2_with fail
  go_ret
  exact ⟨by rw [HR.out]; rfl, HB.out⟩

set_option maxRecDepth 100000 in
set_option maxHeartbeats 2000000 in
theorem insText_9 (n : Int) (s : ByteArray) (tq : Int) (w : World) (hsh : ShOk w) (htb : TabOk w) (hs : s.size ≤ 20) (hn0 : 0 ≤ n) (hn1 : n ≤ 1000000000000) (ht0 : 0 ≤ tq) (ht1 : tq ≤ 1500) (R : ByteArray) (hR : R = insT 9 n s tq) :
    Calls Tryd.prog 19 #[.agg #[.int .i64 9, .int .i64 n, .string s, .int .i64 tq]] w fun e w' => e = .returned (.string R) ∧ Below w.heap.size w w' := by
  rw [← insTP9] at hR
  have HR : Hid (R = (((⟨#[109, 97, 116, 99, 104]⟩ : ByteArray) ++ (⟨#[32]⟩ ++ intText n)) ++ (⟨#[32]⟩ ++ intText tq))) := hR
  have hsz : 0 < w.heap.size := World.block_lt_of_cell? w _ (hsh 0 _ rfl)
  have t0 : w.cell? ⟨0, 36, none⟩ = some (.string ⟨#[109, 97, 116, 99, 104]⟩) := hsh 36 _ rfl
  have t1 : w.cell? ⟨0, 37, none⟩ = some (.bool false) := hsh 37 _ rfl
  have t2 : w.cell? ⟨0, 38, none⟩ = some (.bool true) := hsh 38 _ rfl
  have t3 : w.cell? ⟨0, 39, none⟩ = some (.bool true) := hsh 39 _ rfl
  obtain ⟨W, hW⟩ : ∃ W, W = (w.alloc (.cells #[.int .i64 9, .int .i64 n, .string s, .int .i64 tq] 44)).alloc (.cells #[.string ⟨#[109, 97, 116, 99, 104]⟩, .bool false, .bool true, .bool true] 73) := ⟨_, rfl⟩
  have hA : Below w.heap.size w W := by rw [hW]; exact ((Below.refl _ _).alloc (Nat.le_refl _) _).alloc (by simp) _
  have nB : W.heap[w.heap.size + 1]? = some (.cells #[.string ⟨#[109, 97, 116, 99, 104]⟩, .bool false, .bool true, .bool true] 73 (0, 0)) := by
    rw [hW, show w.heap.size + 1 = (w.alloc (.cells #[.int .i64 9, .int .i64 n, .string s, .int .i64 tq] 44)).heap.size from by simp]; exact heap_alloc_new _ _
  have nA : W.heap[w.heap.size]? = some (.cells #[.int .i64 9, .int .i64 n, .string s, .int .i64 tq] 44 (0, 0)) := by
    rw [hW, (((Below.refl _ _).alloc (Nat.le_refl _) _).block w.heap.size (by simp))]; exact heap_alloc_new _ _
  have HA : Hid (Below w.heap.size w W) := hA
  obtain ⟨D1, hD1⟩ : ∃ D, intText n = D := ⟨_, rfl⟩
  have hz1 : D1.size ≤ 19 := by rw [← hD1]; exact intText_size n
  have HC1 : Hid (∀ V : World, Below w.heap.size w V → Calls Tryd.prog 18 #[.int .i64 n] V fun e w' => e = .returned (.string D1) ∧ Below V.heap.size V w') := fun V hV => by rw [← hD1]; exact itoa_any n V (by omega) (by omega) (htb.later hV)
  rw [hD1] at HR
  obtain ⟨D2, hD2⟩ : ∃ D, intText tq = D := ⟨_, rfl⟩
  have hz2 : D2.size ≤ 19 := by rw [← hD2]; exact intText_size tq
  have HC2 : Hid (∀ V : World, Below w.heap.size w V → Calls Tryd.prog 18 #[.int .i64 tq] V fun e w' => e = .returned (.string D2) ∧ Below V.heap.size V w') := fun V hV => by rw [← hD2]; exact itoa_any tq V (by omega) (by omega) (htb.later hV)
  rw [hD2] at HR
  clear hR hA hsh htb hD1 hD2 
  have HN : Hid (W.heap[w.heap.size]? = some (.cells #[.int .i64 9, .int .i64 n, .string s, .int .i64 tq] 44 (0, 0)) ∧ W.heap[w.heap.size + 1]? = some (.cells #[.string ⟨#[109, 97, 116, 99, 104]⟩, .bool false, .bool true, .bool true] 73 (0, 0))) := ⟨nA, nB⟩
  have hC := HC1.out W HA.out
  rw [hW] at hC
  have HW : Hid (W = _) := hW
  clear nA nB hW
  go_enter Tryd.func19, Tryd.ntmps19
  go_wp2_with fail
  refine hC.mono ?_
  clear hC t0 t1 t2 t3
  rintro e V ⟨rfl, hB⟩
  rw [← HW.out] at hB
  have HB : Hid (Below w.heap.size w V) := HA.out.trans (hB.mono HA.out.size)
  have mA := (hB.block _ (lt_row HN.out.1)).trans HN.out.1
  have mB := (hB.block _ (lt_row HN.out.2)).trans HN.out.2
  have y3 : V.cell? ⟨w.heap.size, 3, none⟩ = some (.int .i64 tq) := by rw [cell_of_row V _ 3 _ _ _ mA]; rfl
  have z3 : V.cell? ⟨w.heap.size + 1, 3, none⟩ = some (.bool true) := by rw [cell_of_row V _ 3 _ _ _ mB]; rfl
  clear hB mA mB HW HN
  have hC := HC2.out V HB.out
  go_wp2_with fail
  refine hC.mono ?_
  clear hC
  rintro e V2 ⟨rfl, hB2⟩
  have HB2 : Hid (Below w.heap.size w V2) := HB.out.trans (hB2.mono HB.out.size)
  clear hB2 y3 z3
  go_wp2_with fail
  go_ret
  exact ⟨by rw [HR.out]; rfl, HB2.out⟩

set_option maxRecDepth 100000 in
set_option maxHeartbeats 2000000 in
theorem insText_10 (n : Int) (s : ByteArray) (tq : Int) (w : World) (hsh : ShOk w) (htb : TabOk w) (hs : s.size ≤ 20) (hn0 : 0 ≤ n) (hn1 : n ≤ 1000000000000) (ht0 : 0 ≤ tq) (ht1 : tq ≤ 1500) (R : ByteArray) (hR : R = insT 10 n s tq) :
    Calls Tryd.prog 19 #[.agg #[.int .i64 10, .int .i64 n, .string s, .int .i64 tq]] w fun e w' => e = .returned (.string R) ∧ Below w.heap.size w w' := by
  rw [← insTP10] at hR
  have HR : Hid (R = ((⟨#[106, 117, 109, 112]⟩ : ByteArray) ++ (⟨#[32]⟩ ++ intText tq))) := hR
  have hsz : 0 < w.heap.size := World.block_lt_of_cell? w _ (hsh 0 _ rfl)
  have t0 : w.cell? ⟨0, 40, none⟩ = some (.string ⟨#[106, 117, 109, 112]⟩) := hsh 40 _ rfl
  have t1 : w.cell? ⟨0, 41, none⟩ = some (.bool false) := hsh 41 _ rfl
  have t2 : w.cell? ⟨0, 42, none⟩ = some (.bool false) := hsh 42 _ rfl
  have t3 : w.cell? ⟨0, 43, none⟩ = some (.bool true) := hsh 43 _ rfl
  obtain ⟨W, hW⟩ : ∃ W, W = (w.alloc (.cells #[.int .i64 10, .int .i64 n, .string s, .int .i64 tq] 44)).alloc (.cells #[.string ⟨#[106, 117, 109, 112]⟩, .bool false, .bool false, .bool true] 73) := ⟨_, rfl⟩
  have hA : Below w.heap.size w W := by rw [hW]; exact ((Below.refl _ _).alloc (Nat.le_refl _) _).alloc (by simp) _
  have nB : W.heap[w.heap.size + 1]? = some (.cells #[.string ⟨#[106, 117, 109, 112]⟩, .bool false, .bool false, .bool true] 73 (0, 0)) := by
    rw [hW, show w.heap.size + 1 = (w.alloc (.cells #[.int .i64 10, .int .i64 n, .string s, .int .i64 tq] 44)).heap.size from by simp]; exact heap_alloc_new _ _
  have nA : W.heap[w.heap.size]? = some (.cells #[.int .i64 10, .int .i64 n, .string s, .int .i64 tq] 44 (0, 0)) := by
    rw [hW, (((Below.refl _ _).alloc (Nat.le_refl _) _).block w.heap.size (by simp))]; exact heap_alloc_new _ _
  have HA : Hid (Below w.heap.size w W) := hA
  obtain ⟨D2, hD2⟩ : ∃ D, intText tq = D := ⟨_, rfl⟩
  have hz2 : D2.size ≤ 19 := by rw [← hD2]; exact intText_size tq
  have HC2 : Hid (∀ V : World, Below w.heap.size w V → Calls Tryd.prog 18 #[.int .i64 tq] V fun e w' => e = .returned (.string D2) ∧ Below V.heap.size V w') := fun V hV => by rw [← hD2]; exact itoa_any tq V (by omega) (by omega) (htb.later hV)
  rw [hD2] at HR
  clear hR hA hsh htb hD2 
  have HN : Hid (W.heap[w.heap.size]? = some (.cells #[.int .i64 10, .int .i64 n, .string s, .int .i64 tq] 44 (0, 0)) ∧ W.heap[w.heap.size + 1]? = some (.cells #[.string ⟨#[106, 117, 109, 112]⟩, .bool false, .bool false, .bool true] 73 (0, 0))) := ⟨nA, nB⟩
  have hC := HC2.out W HA.out
  rw [hW] at hC
  have HW : Hid (W = _) := hW
  clear nA nB hW
  go_enter Tryd.func19, Tryd.ntmps19
  go_wp2_with fail
  refine hC.mono ?_
  clear hC t0 t1 t2 t3
  rintro e V ⟨rfl, hB⟩
  rw [← HW.out] at hB
  have HB : Hid (Below w.heap.size w V) := HA.out.trans (hB.mono HA.out.size)
  have mA := (hB.block _ (lt_row HN.out.1)).trans HN.out.1
  have mB := (hB.block _ (lt_row HN.out.2)).trans HN.out.2
  have y3 : V.cell? ⟨w.heap.size, 3, none⟩ = some (.int .i64 tq) := by rw [cell_of_row V _ 3 _ _ _ mA]; rfl
  have z3 : V.cell? ⟨w.heap.size + 1, 3, none⟩ = some (.bool true) := by rw [cell_of_row V _ 3 _ _ _ mB]; rfl
  clear hB mA mB HW HN
  go_wp2_with fail
  go_ret
  exact ⟨by rw [HR.out]; rfl, HB.out⟩

set_option maxRecDepth 100000 in
set_option maxHeartbeats 2000000 in
theorem insText_11 (n : Int) (s : ByteArray) (tq : Int) (w : World) (hsh : ShOk w) (htb : TabOk w) (hs : s.size ≤ 20) (hn0 : 0 ≤ n) (hn1 : n ≤ 1000000000000) (ht0 : 0 ≤ tq) (ht1 : tq ≤ 1500) (R : ByteArray) (hR : R = insT 11 n s tq) :
    Calls Tryd.prog 19 #[.agg #[.int .i64 11, .int .i64 n, .string s, .int .i64 tq]] w fun e w' => e = .returned (.string R) ∧ Below w.heap.size w w' := by
  rw [← insTP11] at hR
  have HR : Hid (R = (⟨#[102, 97, 105, 108]⟩ : ByteArray)) := hR
  have hsz : 0 < w.heap.size := World.block_lt_of_cell? w _ (hsh 0 _ rfl)
  have t0 : w.cell? ⟨0, 44, none⟩ = some (.string ⟨#[102, 97, 105, 108]⟩) := hsh 44 _ rfl
  have t1 : w.cell? ⟨0, 45, none⟩ = some (.bool false) := hsh 45 _ rfl
  have t2 : w.cell? ⟨0, 46, none⟩ = some (.bool false) := hsh 46 _ rfl
  have t3 : w.cell? ⟨0, 47, none⟩ = some (.bool false) := hsh 47 _ rfl
  obtain ⟨W, hW⟩ : ∃ W, W = (w.alloc (.cells #[.int .i64 11, .int .i64 n, .string s, .int .i64 tq] 44)).alloc (.cells #[.string ⟨#[102, 97, 105, 108]⟩, .bool false, .bool false, .bool false] 73) := ⟨_, rfl⟩
  have hA : Below w.heap.size w W := by rw [hW]; exact ((Below.refl _ _).alloc (Nat.le_refl _) _).alloc (by simp) _
  have nB : W.heap[w.heap.size + 1]? = some (.cells #[.string ⟨#[102, 97, 105, 108]⟩, .bool false, .bool false, .bool false] 73 (0, 0)) := by
    rw [hW, show w.heap.size + 1 = (w.alloc (.cells #[.int .i64 11, .int .i64 n, .string s, .int .i64 tq] 44)).heap.size from by simp]; exact heap_alloc_new _ _
  have nA : W.heap[w.heap.size]? = some (.cells #[.int .i64 11, .int .i64 n, .string s, .int .i64 tq] 44 (0, 0)) := by
    rw [hW, (((Below.refl _ _).alloc (Nat.le_refl _) _).block w.heap.size (by simp))]; exact heap_alloc_new _ _
  have HA : Hid (Below w.heap.size w W) := hA
  clear hR hA hsh htb 
  rw [hW] at HA
  clear nA nB
  go_enter Tryd.func19, Tryd.ntmps19
  go_wp2_with fail
  go_ret
  exact ⟨by rw [HR.out]; rfl, HA.out⟩

set_option maxRecDepth 100000 in
set_option maxHeartbeats 2000000 in
theorem insText_12 (n : Int) (s : ByteArray) (tq : Int) (w : World) (hsh : ShOk w) (htb : TabOk w) (hs : s.size ≤ 20) (hn0 : 0 ≤ n) (hn1 : n ≤ 1000000000000) (ht0 : 0 ≤ tq) (ht1 : tq ≤ 1500) (R : ByteArray) (hR : R = insT 12 n s tq) :
    Calls Tryd.prog 19 #[.agg #[.int .i64 12, .int .i64 n, .string s, .int .i64 tq]] w fun e w' => e = .returned (.string R) ∧ Below w.heap.size w w' := by
  rw [← insTP12] at hR
  have HR : Hid (R = (⟨#[114, 101, 116]⟩ : ByteArray)) := hR
  have hsz : 0 < w.heap.size := World.block_lt_of_cell? w _ (hsh 0 _ rfl)
  have t0 : w.cell? ⟨0, 48, none⟩ = some (.string ⟨#[114, 101, 116]⟩) := hsh 48 _ rfl
  have t1 : w.cell? ⟨0, 49, none⟩ = some (.bool false) := hsh 49 _ rfl
  have t2 : w.cell? ⟨0, 50, none⟩ = some (.bool false) := hsh 50 _ rfl
  have t3 : w.cell? ⟨0, 51, none⟩ = some (.bool false) := hsh 51 _ rfl
  obtain ⟨W, hW⟩ : ∃ W, W = (w.alloc (.cells #[.int .i64 12, .int .i64 n, .string s, .int .i64 tq] 44)).alloc (.cells #[.string ⟨#[114, 101, 116]⟩, .bool false, .bool false, .bool false] 73) := ⟨_, rfl⟩
  have hA : Below w.heap.size w W := by rw [hW]; exact ((Below.refl _ _).alloc (Nat.le_refl _) _).alloc (by simp) _
  have nB : W.heap[w.heap.size + 1]? = some (.cells #[.string ⟨#[114, 101, 116]⟩, .bool false, .bool false, .bool false] 73 (0, 0)) := by
    rw [hW, show w.heap.size + 1 = (w.alloc (.cells #[.int .i64 12, .int .i64 n, .string s, .int .i64 tq] 44)).heap.size from by simp]; exact heap_alloc_new _ _
  have nA : W.heap[w.heap.size]? = some (.cells #[.int .i64 12, .int .i64 n, .string s, .int .i64 tq] 44 (0, 0)) := by
    rw [hW, (((Below.refl _ _).alloc (Nat.le_refl _) _).block w.heap.size (by simp))]; exact heap_alloc_new _ _
  have HA : Hid (Below w.heap.size w W) := hA
  clear hR hA hsh htb 
  rw [hW] at HA
  clear nA nB
  go_enter Tryd.func19, Tryd.ntmps19
  go_wp2_with fail
  go_ret
  exact ⟨by rw [HR.out]; rfl, HA.out⟩

theorem insText_any (op n : Int) (s : ByteArray) (tq : Int) (w : World) (hsh : ShOk w) (htb : TabOk w) (h1 : 1 ≤ op) (h2 : op ≤ 12) (hs : s.size ≤ 20) (hn0 : 0 ≤ n) (hn1 : n ≤ 1000000000000) (ht0 : 0 ≤ tq) (ht1 : tq ≤ 1500) :
    Calls Tryd.prog 19 #[.agg #[.int .i64 op, .int .i64 n, .string s, .int .i64 tq]] w fun e w' => e = .returned (.string (insT op n s tq)) ∧ Below w.heap.size w w' := by
  rcases ins_ops h1 h2 with rfl | rfl | rfl | rfl | rfl | rfl | rfl | rfl | rfl | rfl | rfl | rfl
  · exact insText_1 n s tq w hsh htb hs hn0 hn1 ht0 ht1 _ rfl
  · exact insText_2 n s tq w hsh htb hs hn0 hn1 ht0 ht1 _ rfl
  · exact insText_3 n s tq w hsh htb hs hn0 hn1 ht0 ht1 _ rfl
  · exact insText_4 n s tq w hsh htb hs hn0 hn1 ht0 ht1 _ rfl
  · exact insText_5 n s tq w hsh htb hs hn0 hn1 ht0 ht1 _ rfl
  · exact insText_6 n s tq w hsh htb hs hn0 hn1 ht0 ht1 _ rfl
  · exact insText_7 n s tq w hsh htb hs hn0 hn1 ht0 ht1 _ rfl
  · exact insText_8 n s tq w hsh htb hs hn0 hn1 ht0 ht1 _ rfl
  · exact insText_9 n s tq w hsh htb hs hn0 hn1 ht0 ht1 _ rfl
  · exact insText_10 n s tq w hsh htb hs hn0 hn1 ht0 ht1 _ rfl
  · exact insText_11 n s tq w hsh htb hs hn0 hn1 ht0 ht1 _ rfl
  · exact insText_12 n s tq w hsh htb hs hn0 hn1 ht0 ht1 _ rfl

theorem bytes_app (a b : ByteArray) : a.data.toList ++ b.data.toList = (a ++ b).data.toList := by rw [ByteArray.data_append, Array.toList_append]
theorem bytes_len (a : ByteArray) : a.data.toList.length = a.size := by rw [Array.length_toList]; rfl

def TabsOk (w : World) : Prop := ShOk w ∧ TabOk w
theorem TabsOk.later {w w' : World} (h : TabsOk w) (hb : Below w.heap.size w w') : TabsOk w' := ⟨h.1.later hb, h.2.later hb⟩

set_option maxRecDepth 100000 in
set_option maxHeartbeats 8000000 in
theorem implCodeText_any (d : Nat) (vs : List Value) (c : DCode d) (w : World) (hc : CodeR d w vs c) (hwc : WfCode d c) (hz : szCodeD d c ≤ 1048576) (htabs : TabsOk w) :
    Calls Tryd.prog 7 #[.agg vs.toArray] w fun e w' => ∃ r, e = .returned (.string r) ∧ Hid (CodeTextT d c r) ∧ Below w.heap.size w w' := by
  obtain ⟨a0, l0, c0, a1, l1, c1, rfl⟩ := CodeR.shape _ _ _ _ hc
  obtain ⟨W, hW⟩ : ∃ W, W = w.alloc (.cells #[.slice a0 l0 c0, .slice a1 l1 c1] 31) := ⟨_, rfl⟩
  have hA : Below w.heap.size w W := by rw [hW]; exact (Below.refl _ _).alloc (Nat.le_refl _) _
  have nA : W.heap[w.heap.size]? = some (.cells #[.slice a0 l0 c0, .slice a1 l1 c1] 31 (0, 0)) := by rw [hW]; exact heap_alloc_new w _
  have HA : Hid (Below w.heap.size w W ∧ W.heap[w.heap.size]? = some (.cells #[.slice a0 l0 c0, .slice a1 l1 c1] 31 (0, 0))) := ⟨hA, nA⟩
  have hC := implCodeOk_any d _ c W (CodeR.lasts d _ _ _ _ hc hA) hwc hz (htabs.1.later hA)
  rw [hW] at hC
  have HW : Hid (W = _) := hW
  have HTB : Hid (∀ Z : World, Below w.heap.size w Z → ShOk Z ∧ TabOk Z) := fun Z hZ => htabs.later hZ
  obtain ⟨w0, w1, e0, hF, hP⟩ := hc
  simp only [List.cons.injEq, and_true] at e0
  obtain ⟨rfl, rfl⟩ := e0
  obtain ⟨aa, cc, ee⟩ := hF.slice
  simp only [Value.slice.injEq] at ee
  obtain ⟨-, el, -⟩ := ee
  have HLN : Hid (c.Fns.length = l0 ∧ l0 ≤ 1048576) := ⟨el.symm, by have := szRow_len szFnD c.Fns; unfold szCodeD at hz; omega⟩
  have HRW : Hid (∀ V : World, Below w.heap.size w V → RowOf 4 FnR V (.slice a0 l0 c0) c.Fns) := fun V hV => hF.later FnR.lasts hV
  have hl0 : l0 ≤ 1048576 := HLN.out.2
  clear hwc hz hF hP el nA hA hW htabs
  go_enter Tryd.func7, Tryd.ntmps7
  go_wp2_with fail
  refine hC.mono ?_
  clear hC
  rintro e V ⟨b, rfl, hb, hB⟩
  rw [← HW.out] at hB
  have HBV : Hid (Below w.heap.size w V) := HA.out.1.trans (hB.mono HA.out.1.size)
  have nV := (hB.block _ (lt_row HA.out.2)).trans HA.out.2
  clear hB HW
  cases b with
  | false =>
    have HF : Hid (CodeTextT d c ⟨#[]⟩) := .inr ⟨fun h => (by have := hb.2 h; cases this), rfl⟩
    clear hb nV
    go_wp2_with fail
    go_ret
    exact ⟨_, rfl, HF, HBV.out⟩
  | true =>
  have HOK : Hid (pCodeOk d c) := hb.1 rfl
  have HSM : Hid (Small c.Fns) := code_small HOK.out
  have HNM : Hid (Nums c.Fns) := code_nums HOK.out
  have hl12 : l0 ≤ 12 := by have := HOK.out.1; have := HLN.out; omega
  obtain ⟨B, hBe⟩ : ∃ B, B = V.alloc (.cells #[.pointer none, .slice none 0 0] 50) := ⟨_, rfl⟩
  have bB : Below V.heap.size V B := by rw [hBe]; exact (Below.refl _ _).alloc (Nat.le_refl _) _
  have HBB : Hid (Bd V V.heap.size ((⟨#[]⟩ : ByteArray).data.toList) B) := ⟨by rw [hBe]; exact Lib.IsBuilderF.of (Lib.fresh_isBuilder _ 5 V), bB⟩
  have mV := (bB.block _ (lt_row nV)).trans nV
  have x0 : B.cell? ⟨w.heap.size, 0, none⟩ = some (.slice a0 l0 c0) := by rw [cell_of_row B _ 0 _ _ _ mV]; rfl
  rw [hBe] at x0
  clear hb nV bB mV
  go_wp2_with fail
  rw [← hBe]
  clear hBe x0
  go_loopw [14] (fun i wr => ∃ j : Nat, j ≤ l0 ∧ i = .int .i64 j ∧ Hid (Bd V V.heap.size (cdA ⟨#[]⟩ (c.Fns.take j)).data.toList wr)) (fun i _ => l0 - (intOf i).toNat)
  case atStart => exact ⟨0, Nat.zero_le _, rfl, HBB⟩
  case round =>
    obtain ⟨j, hj, rfl, HBD⟩ := hrel
    obtain ⟨wo, hwo⟩ : ∃ X, X = wr := ⟨_, rfl⟩
    subst hwo
    have HBW : Hid (Below w.heap.size w wo) := HBV.out.trans (HBD.out.2.mono HBV.out.size)
    obtain ⟨acc, hacc⟩ : ∃ a, cdA ⟨#[]⟩ (c.Fns.take j) = a := ⟨_, rfl⟩
    have HAC : Hid (cdA ⟨#[]⟩ (c.Fns.take j) = acc) := hacc
    rw [hacc] at HBD
    have hac : acc.size ≤ 2000000 := by
      rw [← hacc]
      have h1 := cdA_size (fs := c.Fns.take j) (fun f hf => HSM.out f (List.mem_of_mem_take hf)) ⟨#[]⟩
      have h2 : (c.Fns.take j).length ≤ 12 := by rw [List.length_take]; have := HLN.out; omega
      have h3 : (⟨#[]⟩ : ByteArray).size = 0 := rfl
      omega
    clear hacc
    by_cases hjl : j < l0
    case neg =>
      obtain rfl : j = l0 := by omega
      have hjl' : decide ((j : Int) < (j : Int)) = false := by simp
      have HF : Hid (CodeTextT d c acc) := .inl ⟨HOK.out, by rw [← HAC.out, List.take_of_length_le (by have := HLN.out; omega)]⟩
      have hC := Tryd.Builder_String_any_k V.heap.size V.heap.size acc.data.toList wo HBD.out.1 HBD.out.2.size
      clear hjl
      go_wp2_with fail
      refine hC.mono ?_
      clear hC
      rintro e Z ⟨rfl, _, hZ, _⟩
      have HZ : Hid (Below w.heap.size w Z) := HBW.out.trans (hZ.mono HBV.out.size)
      clear hZ
      go_wp2_with fail
      go_ret
      exact ⟨acc, rfl, HF, HZ.out⟩
    have hjl' : (j : Int) < (l0 : Int) := by omega
    obtain ⟨f, hf⟩ : ∃ x, c.Fns[j]? = some x := ⟨_, List.getElem?_eq_getElem (by have := HLN.out; omega)⟩
    obtain ⟨b, o, a3, c3, rfl, f0, f1, f2, f3, hrow⟩ := Fn_at (HRW.out wo HBW.out) j f hf
    have hfm := List.mem_of_getElem? hf
    obtain ⟨hs1, hs2, hs3⟩ := HSM.out f hfm
    obtain ⟨⟨ha4, hs4⟩, hn3⟩ := HNM.out f hfm
    have hbl : b < wo.heap.size := by have := World.block_lt_of_cell? wo _ f0; simpa using this
    obtain ⟨li, hli⟩ : ∃ l, f.Ins.length = l := ⟨_, rfl⟩
    rw [hli] at f3 hrow hs2
    have HLI : Hid (f.Ins.length = li) := hli
    have HFX : Hid (c.Fns[j]? = some f) := hf
    have HS3 : Hid (∀ x ∈ f.Ins, (1 ≤ x.Op ∧ x.Op ≤ 12) ∧ x.S.size ≤ 20) := hs3
    have HN3 : Hid (∀ x ∈ f.Ins, (0 ≤ x.N ∧ x.N ≤ 1000000000000) ∧ (0 ≤ x.To ∧ x.To ≤ 1500)) := hn3
    obtain ⟨D1, hD1⟩ : ∃ D, intText f.Args = D := ⟨_, rfl⟩
    obtain ⟨D2, hD2⟩ : ∃ D, intText f.Slots = D := ⟨_, rfl⟩
    have hz1 : D1.size ≤ 19 := by rw [← hD1]; exact intText_size _
    have hz2 : D2.size ≤ 19 := by rw [← hD2]; exact intText_size _
    obtain ⟨X, hX⟩ : ∃ X, wo.alloc (.cells #[.string f.Name, .int .i64 f.Args, .int .i64 f.Slots, .slice a3 li c3] 40) = X := ⟨_, rfl⟩
    have bX : Below wo.heap.size wo X := by rw [← hX]; exact (Below.refl _ _).alloc (Nat.le_refl _) _
    have nX : X.heap[wo.heap.size]? = some (.cells #[.string f.Name, .int .i64 f.Args, .int .i64 f.Slots, .slice a3 li c3] 40 (0, 0)) := by rw [← hX]; exact heap_alloc_new _ _
    have g0 : X.cell? ⟨wo.heap.size, 0, none⟩ = some (.string f.Name) := by rw [cell_of_row X _ 0 _ _ _ nX]; rfl
    have g1 : X.cell? ⟨wo.heap.size, 1, none⟩ = some (.int .i64 f.Args) := by rw [cell_of_row X _ 1 _ _ _ nX]; rfl
    have g2 : X.cell? ⟨wo.heap.size, 2, none⟩ = some (.int .i64 f.Slots) := by rw [cell_of_row X _ 2 _ _ _ nX]; rfl
    have HXW : Hid (Below w.heap.size w X) := HBW.out.trans (bX.mono HBW.out.size)
    have HC1 : Hid (∀ Z : World, Below X.heap.size X Z → Calls Tryd.prog 18 #[.int .i64 f.Args] Z fun e w' => e = .returned (.string D1) ∧ Below Z.heap.size Z w') := fun Z hZ => by rw [← hD1]; exact itoa_any f.Args Z (by omega) (by omega) (HTB.out Z (HXW.out.trans (hZ.mono HXW.out.size))).2
    have HC2 : Hid (∀ Z : World, Below X.heap.size X Z → Calls Tryd.prog 18 #[.int .i64 f.Slots] Z fun e w' => e = .returned (.string D2) ∧ Below Z.heap.size Z w') := fun Z hZ => by rw [← hD2]; exact itoa_any f.Slots Z (by omega) (by omega) (HTB.out Z (HXW.out.trans (hZ.mono HXW.out.size))).2
    have hbne : wo.heap.size ≠ V.heap.size := fun e => by have := HBD.out.lt; omega
    have HKX : Hid (∀ Z : World, BoxKept V.heap.size X Z → Z.heap[wo.heap.size]? = some (.cells #[.string f.Name, .int .i64 f.Args, .int .i64 f.Slots, .slice a3 li c3] 40 (0, 0))) := fun Z hZ => hZ _ _ _ _ hbne (by decide) nX
    obtain ⟨STR, hSTR⟩ : ∃ s, ((((f.Name ++ ⟨#[47]⟩) ++ D1) ++ ⟨#[32]⟩) ++ D2) ++ ⟨#[10]⟩ = s := ⟨_, rfl⟩
    have hSTs : STR.size ≤ 100 := by rw [← hSTR]; simp only [app_size, one_size]; omega
    have HST : Hid (((((f.Name ++ ⟨#[47]⟩) ++ D1) ++ ⟨#[32]⟩) ++ D2) ++ ⟨#[10]⟩ = STR) := hSTR
    have HHD : Hid (acc ++ STR = hdA acc f) := by
      show _ = _
      unfold hdA
      rw [← hSTR, hD1, hD2]
      simp only [app3]
    have HBX : Hid (Bd V V.heap.size acc.data.toList X) := HBD.out.later bX
    have HWR : Hid (∀ Z : World, Below X.heap.size X Z → Calls Tryd.prog 17 #[.pointer (some ⟨V.heap.size, 0, none⟩), .string STR] Z fun e w' => ∃ zz, e = .returned zz ∧ Hid (Bd V V.heap.size (hdA acc f).data.toList w') ∧ Hid (BoxKept V.heap.size X w')) := fun Z hZ => by
      refine (write_any V V.heap.size acc.data.toList STR Z (HBX.out.later hZ) (by rw [bytes_len]; omega)).mono ?_
      rintro e w' ⟨rfl, h1, h2⟩
      have h3 := h1.out
      rw [bytes_app, HHD.out] at h3
      exact ⟨_, rfl, h3, (BoxKept.below hZ).then h2.out⟩
    have HRX : Hid (∀ Z : World, Below w.heap.size w Z → RowOf 4 InsR Z (.slice a3 li c3) f.Ins) := fun Z hZ => by
      obtain ⟨b', o', a3', c3', e1, _, _, _, e2, e3⟩ := Fn_at (HRW.out w (Below.refl _ _)) j f HFX.out
      simp only [Option.some.injEq, Addr.mk.injEq, and_true] at e1
      obtain ⟨rfl, rfl⟩ := e1
      rw [HLI.out] at e2 e3
      have h5 := cell_later HBW.out e2
      rw [f3] at h5
      simp only [Option.some.injEq, Value.slice.injEq, true_and] at h5
      obtain ⟨rfl, rfl⟩ := h5
      exact e3.later InsR.lasts hZ
    have HXE : Hid (wo.alloc (.cells #[.string f.Name, .int .i64 f.Args, .int .i64 f.Slots, .slice a3 li c3] 40) = X) := hX
    clear hf hfm hs3 hn3 ha4 hs4 hli hD1 hD2 bX nX hrow hX hSTR
    go_wp2_with fail
    rw [HXE.out]
    clear f0 f1 f2 f3
    have hn0' := After.some X
    have p0 := After.cell g0
    have p1 := After.cell g1
    have p2 := After.cell g2
    refine wp_region_after_tail 13 (by kernel_rfl) (by kernel_rfl) ?_
    simp only [List.take_succ_cons, List.take_zero, List.drop_succ_cons, List.drop_zero]
    repeat (go_big_quiet_step (first | (go_at_call 18; with_reducible exact calls_after (HC1.out _ (After.bel _))) | (go_at_call 18; with_reducible exact calls_after (HC2.out _ (After.bel _)))))
    refine wpQuiet_nil ?_
    rintro _ ⟨nq, rfl⟩
    rw [HST.out]
    have hC := HWR.out nq.now nq.bel
    go_wp2_with fail
    refine hC.mono ?_
    clear hC
    rintro e Y ⟨zz, rfl, HBY, HKY⟩
    have nY := HKX.out Y HKY.out
    have y3 : Y.cell? ⟨wo.heap.size, 3, none⟩ = some (.slice a3 li c3) := by rw [cell_of_row Y _ 3 _ _ _ nY]; rfl
    obtain ⟨ac1, hac1⟩ : ∃ a, hdA acc f = a := ⟨_, rfl⟩
    have HA1 : Hid (hdA acc f = ac1) := hac1
    have hz3 : ac1.size ≤ 2000100 := by have := hdA_size (acc := acc) hs1; rw [hac1] at this; omega
    rw [hac1] at HBY
    clear nq p0 p1 p2 hn0' g0 g1 g2 HC1 HC2 hac1 HHD hz1 hz2 nY HWR HBX HKX hSTs
    go_wp2_with fail
    go_loopw [35] (fun i wr => ∃ k : Nat, k ≤ li ∧ i = .int .i64 k ∧ Hid (Bd V V.heap.size (lnsA ac1 0 (f.Ins.take k)).data.toList wr)) (fun i _ => li - (intOf i).toNat)
    case atStart => exact ⟨0, Nat.zero_le _, rfl, HBY⟩
    case round =>
      obtain ⟨k, hk, rfl, HBk⟩ := hrel
      have HBU : Hid (Below w.heap.size w wr) := HBV.out.trans (HBk.out.2.mono HBV.out.size)
      obtain ⟨ac, hacx⟩ : ∃ a, lnsA ac1 0 (f.Ins.take k) = a := ⟨_, rfl⟩
      have HK : Hid (lnsA ac1 0 (f.Ins.take k) = ac) := hacx
      rw [hacx] at HBk
      clear hacx
      by_cases hkl : k < li
      · have hkl' : (k : Int) < (li : Int) := by omega
        obtain ⟨x, hx⟩ : ∃ x, f.Ins[k]? = some x := ⟨_, List.getElem?_eq_getElem (by have := HLI.out; omega)⟩
        obtain ⟨bi, oi, rfl, i0, i1, i2, i3⟩ := Ins_at (HRX.out wr HBU.out) k x hx
        have hxm := List.mem_of_getElem? hx
        obtain ⟨⟨o1, o2⟩, o3⟩ := HS3.out x hxm
        obtain ⟨⟨o4, o5⟩, o6, o7⟩ := HN3.out x hxm
        have hbil : bi < wr.heap.size := by have := World.block_lt_of_cell? wr _ i0; simpa using this
        obtain ⟨D3, hD3⟩ : ∃ D, intText (k : Int) = D := ⟨_, rfl⟩
        obtain ⟨D4, hD4⟩ : ∃ D, insT x.Op x.N x.S x.To = D := ⟨_, rfl⟩
        have hz4 : D3.size ≤ 19 := by rw [← hD3]; exact intText_size _
        have hz5 : D4.size ≤ 70 := by rw [← hD4]; exact insT_size o1 o2 o3
        have hz6 : ac.size ≤ 4000000 := by
          rw [← HK.out]
          have h1 := lnsA_size (l := f.Ins.take k) (fun y hy => HS3.out y (List.mem_of_mem_take hy)) ac1 0
          have h2 : (f.Ins.take k).length ≤ 1500 := by rw [List.length_take]; omega
          omega
        obtain ⟨U, hU⟩ : ∃ U, wr.alloc (.cells #[.int .i64 x.Op, .int .i64 x.N, .string x.S, .int .i64 x.To] 44) = U := ⟨_, rfl⟩
        have bU : Below wr.heap.size wr U := by rw [← hU]; exact (Below.refl _ _).alloc (Nat.le_refl _) _
        have nU : U.heap[wr.heap.size]? = some (.cells #[.int .i64 x.Op, .int .i64 x.N, .string x.S, .int .i64 x.To] 44 (0, 0)) := by rw [← hU]; exact heap_alloc_new _ _
        have e0 : U.cell? ⟨wr.heap.size, 0, none⟩ = some (.int .i64 x.Op) := by rw [cell_of_row U _ 0 _ _ _ nU]; rfl
        have e1 : U.cell? ⟨wr.heap.size, 1, none⟩ = some (.int .i64 x.N) := by rw [cell_of_row U _ 1 _ _ _ nU]; rfl
        have e2 : U.cell? ⟨wr.heap.size, 2, none⟩ = some (.string x.S) := by rw [cell_of_row U _ 2 _ _ _ nU]; rfl
        have e3 : U.cell? ⟨wr.heap.size, 3, none⟩ = some (.int .i64 x.To) := by rw [cell_of_row U _ 3 _ _ _ nU]; rfl
        have HUW : Hid (Below w.heap.size w U) := HBU.out.trans (bU.mono HBU.out.size)
        have HC3 : Hid (∀ Z : World, Below U.heap.size U Z → Calls Tryd.prog 18 #[.int .i64 k] Z fun e w' => e = .returned (.string D3) ∧ Below Z.heap.size Z w') := fun Z hZ => by rw [← hD3]; exact itoa_any k Z (by omega) (by omega) (HTB.out Z (HUW.out.trans (hZ.mono HUW.out.size))).2
        have HC4 : Hid (∀ Z : World, Below U.heap.size U Z → Calls Tryd.prog 19 #[.agg #[.int .i64 x.Op, .int .i64 x.N, .string x.S, .int .i64 x.To]] Z fun e w' => e = .returned (.string D4) ∧ Below Z.heap.size Z w') := fun Z hZ => by
          have ht := HTB.out Z (HUW.out.trans (hZ.mono HUW.out.size))
          rw [← hD4]; exact insText_any x.Op x.N x.S x.To Z ht.1 ht.2 o1 o2 o3 o4 o5 o6 o7
        obtain ⟨ST2, hST2⟩ : ∃ s, ((D3 ++ ⟨#[32]⟩) ++ D4) ++ ⟨#[10]⟩ = s := ⟨_, rfl⟩
        have HS2 : Hid (((D3 ++ ⟨#[32]⟩) ++ D4) ++ ⟨#[10]⟩ = ST2) := hST2
        have hs2s : ST2.size ≤ 100 := by rw [← hST2]; simp only [app_size, one_size]; omega
        have HNX : Hid (ac ++ ST2 = lnsA ac1 0 (f.Ins.take (k + 1))) := by
          show _ = _
          rw [lnsA_take ac1 f.Ins 0 k x hx, HK.out, Nat.zero_add]
          unfold lnA
          rw [← hST2, hD3, hD4]
          simp only [app3]
        have HBK2 : Hid (Bd V V.heap.size ac.data.toList U) := HBk.out.later bU
        have HWR : Hid (∀ Z : World, Below U.heap.size U Z → Calls Tryd.prog 17 #[.pointer (some ⟨V.heap.size, 0, none⟩), .string ST2] Z fun e w' => ∃ zz, e = .returned zz ∧ Hid (Bd V V.heap.size (lnsA ac1 0 (f.Ins.take (k + 1))).data.toList w')) := fun Z hZ => by
          refine (write_any V V.heap.size ac.data.toList ST2 Z (HBK2.out.later hZ) (by rw [bytes_len]; omega)).mono ?_
          rintro e w' ⟨rfl, h1, h2⟩
          have h3 := h1.out
          rw [bytes_app, HNX.out] at h3
          exact ⟨_, rfl, h3⟩
        have HUE : Hid (wr.alloc (.cells #[.int .i64 x.Op, .int .i64 x.N, .string x.S, .int .i64 x.To] 44) = U) := hU
        clear hx hxm o1 o2 o3 o4 o5 o6 o7 hD3 hD4 hU bU nU hST2
        go_wp2_with fail
        rw [HUE.out]
        clear i0 i1 i2 i3
        have hn0' := After.some U
        have p0 := After.cell e0
        have p1 := After.cell e1
        have p2 := After.cell e2
        have p3 := After.cell e3
        refine wp_region_after_tail 7 (by kernel_rfl) (by kernel_rfl) ?_
        simp only [List.take_succ_cons, List.take_zero, List.drop_succ_cons, List.drop_zero]
        repeat (go_big_quiet_step (first | (go_at_call 18; with_reducible exact calls_after (HC3.out _ (After.bel _))) | (go_at_call 19; with_reducible exact calls_after (HC4.out _ (After.bel _)))))
        refine wpQuiet_nil ?_
        rintro _ ⟨nq, rfl⟩
        rw [HS2.out]
        have hC := HWR.out nq.now nq.bel
        go_wp2_with fail
        refine hC.mono ?_
        clear hC
        rintro e Y2 ⟨zz, rfl, HBY2⟩
        clear nq p0 p1 p2 p3 hn0' e0 e1 e2 e3 HC3 HC4 HWR HBK2 HNX HS2
        go_wp2_with fail
        go_roundw
        case rel => exact ⟨k + 1, by omega, by go_num, HBY2⟩
        case measure => simp [intOf]; omega
      · obtain rfl : k = li := by omega
        have hkl' : decide ((k : Int) < (k : Int)) = false := by simp
        have HF : Hid (Bd V V.heap.size (cdA ⟨#[]⟩ (c.Fns.take (j + 1))).data.toList wr) := by
          have h1 := HBk.out
          rw [← HK.out, List.take_of_length_le (by have := HLI.out; omega), ← HA1.out, ← HAC.out] at h1
          have h2 := cdA_take ⟨#[]⟩ c.Fns j f HFX.out
          show Bd _ _ _ _
          rw [h2]
          exact h1
        clear HK hkl HBk
        go_wp2_with fail
        go_roundw
        case rel => exact ⟨j + 1, by omega, by go_num, HF⟩
        case measure => simp [intOf]; omega

end Go.Proofs.YtfjneifgjdjbiaaDoor
