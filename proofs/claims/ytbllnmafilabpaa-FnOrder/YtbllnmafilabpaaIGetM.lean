/- The program's reading of a term: what is read of the bytes, in new memory. -/
import Derived.Test.YtbllnmafilabpaaGetTM
import Derived.Test.YtbllnmafilabpaaIOkM
import Derived.Deep.DeepCutAuto
import Derived.Deep.CutRange
namespace Go.Proofs.Ytbllnmafilabpaa
open Go.RowKit
set_option linter.unusedVariables false

/-- A reader at p over the bytes zs, at a place, bad or not. -/
structure Rdr (w : World) (p b off n cap : Nat) (zs : List Int) (at_ : Int) (bad : Bool) : Prop where
  heap : w.heap[p]? = some (.cells #[.slice (some ⟨b, off, none⟩) n cap, .int .i64 at_, .bool bad] 47 (0, 0))
  row : ∀ i, i < n → w.cell? ⟨b, off + i, none⟩ = some (.int .u8 (zs.getD i 0))
  ne : p ≠ b

/-- What is so of the bytes. -/
structure Bts (n cap : Nat) (zs : List Int) : Prop where
  len : zs.length = n
  le : n ≤ 1048576
  cap1 : n ≤ cap
  cap2 : cap ≤ 9223372036854775807
  rng : ∀ j : Nat, 0 ≤ zs[j]?.getD 0 ∧ zs[j]?.getD 0 ≤ 255

theorem Rdr.lt {w : World} {p b off n cap : Nat} {zs : List Int} {at_ : Int} {bad : Bool} (h : Rdr w p b off n cap zs at_ bad) : p < w.heap.size := Nat.lt_of_not_le fun hn => by have := h.heap; rw [Array.getElem?_eq_none hn] at this; cases this

theorem Rdr.blt {w : World} {p b off n cap : Nat} {zs : List Int} {at_ : Int} {bad : Bool} (h : Rdr w p b off n cap zs at_ bad) (hn : 0 < n) : b < w.heap.size := Nat.lt_of_not_le fun hh => by
  have := h.row 0 hn
  simp [World.cell?, Array.getElem?_eq_none hh] at this

/-- The row behind a reader stays where only p is written. -/
theorem row_turned {w w' : World} {p b off n cap : Nat} {zs : List Int} {at_ : Int} {bad : Bool} (h : Rdr w p b off n cap zs at_ bad) (ht : Turned p w w') : ∀ i, i < n → w'.cell? ⟨b, off + i, none⟩ = some (.int .u8 (zs.getD i 0)) := fun i hi => by
  have hb := h.blt (by omega)
  rw [World.cell?_of_block (a := ⟨b, off + i, none⟩) (ht.block b hb (fun e => h.ne e.symm))]
  exact h.row i hi

theorem Rdr.later {w w' : World} {p b off n cap : Nat} {zs : List Int} {at_ : Int} {bad : Bool} (h : Rdr w p b off n cap zs at_ bad) (hb : Below w.heap.size w w') : Rdr w' p b off n cap zs at_ bad :=
  ⟨(hb.block _ h.lt).trans h.heap, fun i hi => cell_later hb (h.row i hi), h.ne⟩

theorem Rdr.set {w : World} {p b off n cap : Nat} {zs : List Int} {at_ : Int} {bad : Bool} (h : Rdr w p b off n cap zs at_ bad) (x : Int) : Rdr (w.setCell ⟨p, 1, none⟩ (.int .i64 x)) p b off n cap zs x bad :=
  ⟨heap_setCell_same w p 1 _ _ _ h.heap, row_turned h (Turned.of_set _ _ _ _), h.ne⟩
theorem Rdr.spoil {w : World} {p b off n cap : Nat} {zs : List Int} {at_ : Int} {bad : Bool} (h : Rdr w p b off n cap zs at_ bad) : Rdr (w.setCell ⟨p, 2, none⟩ (.bool true)) p b off n cap zs at_ true :=
  ⟨heap_setCell_same w p 2 _ _ _ h.heap, row_turned h (Turned.of_set _ _ _ _), h.ne⟩

set_option maxHeartbeats 400000 in
theorem num_ok (p b off n cap : Nat) (zs : List Int) (at_ x q : Int) (w : World) (hB : Bts n cap zs) (hr : Rdr w p b off n cap zs at_ false) (hg : getNum zs at_ = (x, q, true)) :
    Calls Try.prog 51 #[.pointer (some ⟨p, 0, none⟩)] w fun e w' => e = .returned (.int .i64 x) ∧ Rdr w' p b off n cap zs q false ∧ Turned p w w' := by
  have hC := fun (X : World) (hX : Below w.heap.size w X) => implGetNum_any b off n cap at_ zs X hB.len (by have := hB.le; omega) (hr.later hX).row hB.rng
  rw [hg] at hC
  simp only [three] at hC
  have c0 : w.cell? ⟨p, 0, none⟩ = some (.slice (some ⟨b, off, none⟩) n cap) := by rw [cell_of_row w _ 0 _ _ _ hr.heap]; rfl
  have c1 : w.cell? ⟨p, 1, none⟩ = some (.int .i64 at_) := by rw [cell_of_row w _ 1 _ _ _ hr.heap]; rfl
  have c2 : w.cell? ⟨p, 2, none⟩ = some (.bool false) := by rw [cell_of_row w _ 2 _ _ _ hr.heap]; rfl
  have z1 : w.frozen? ⟨p, 1, none⟩ = false := frozen_of_row w _ _ _ _ hr.heap
  have HR : Hid (Rdr (w.drew.setCell ⟨p, 1, none⟩ (.int .i64 q)) p b off n cap zs q false ∧ Turned p w (w.drew.setCell ⟨p, 1, none⟩ (.int .i64 q))) := ⟨(hr.later (Below.refl _ _).drew).set q, (Turned.of_below (Below.refl _ _).drew).trans (Turned.of_set _ _ _ _)⟩
  clear hr hg hB
  go_enter Try.func51, Try.ntmps51
  go_wp2_with fail
  go_region_with (go_at_call 61; refine (hC _ ?_).mono ?_; exact (Below.refl _ _).drew; rintro e w' ⟨rfl, rfl⟩)
  all_goals
    go_wp2_with fail
    go_ret
    exact ⟨rfl, HR.out⟩

set_option maxHeartbeats 400000 in
theorem num_bad (p b off n cap : Nat) (zs : List Int) (at_ : Int) (w : World) (hB : Bts n cap zs) (hr : Rdr w p b off n cap zs at_ false) (hg : ¬ (getNum zs at_).2.2 = true) :
    Calls Try.prog 51 #[.pointer (some ⟨p, 0, none⟩)] w fun e w' => e = .returned (.int .i64 0) ∧ Rdr w' p b off n cap zs at_ true ∧ Turned p w w' := by
  have hC := fun (X : World) (hX : Below w.heap.size w X) => implGetNum_any b off n cap at_ zs X hB.len (by have := hB.le; omega) (hr.later hX).row hB.rng
  obtain ⟨x, q, ok, hgg⟩ : ∃ x q ok, getNum zs at_ = (x, q, ok) := ⟨_, _, _, rfl⟩
  rw [hgg] at hC hg
  obtain rfl : ok = false := by simpa using hg
  simp only [three] at hC
  have c0 : w.cell? ⟨p, 0, none⟩ = some (.slice (some ⟨b, off, none⟩) n cap) := by rw [cell_of_row w _ 0 _ _ _ hr.heap]; rfl
  have c1 : w.cell? ⟨p, 1, none⟩ = some (.int .i64 at_) := by rw [cell_of_row w _ 1 _ _ _ hr.heap]; rfl
  have c2 : w.cell? ⟨p, 2, none⟩ = some (.bool false) := by rw [cell_of_row w _ 2 _ _ _ hr.heap]; rfl
  have z1 : w.frozen? ⟨p, 2, none⟩ = false := frozen_of_row w _ _ _ _ hr.heap
  have HR : Hid (Rdr (w.drew.setCell ⟨p, 2, none⟩ (.bool true)) p b off n cap zs at_ true ∧ Turned p w (w.drew.setCell ⟨p, 2, none⟩ (.bool true))) := ⟨(hr.later (Below.refl _ _).drew).spoil, (Turned.of_below (Below.refl _ _).drew).trans (Turned.of_set _ _ _ _)⟩
  clear hr hg hB hgg
  go_enter Try.func51, Try.ntmps51
  go_wp2_with fail
  go_region_with (go_at_call 61; refine (hC _ ?_).mono ?_; exact (Below.refl _ _).drew; rintro e w' ⟨rfl, rfl⟩)
  all_goals
    go_wp2_with fail
    go_ret
    exact ⟨rfl, HR.out⟩

set_option maxHeartbeats 400000 in
theorem text_ok (p b off n cap : Nat) (zs : List Int) (at_ q : Int) (s : List Int) (w : World) (hB : Bts n cap zs) (hr : Rdr w p b off n cap zs at_ false) (hg : getText zs at_ = (s, q, true)) :
    Calls Try.prog 52 #[.pointer (some ⟨p, 0, none⟩)] w fun e w' => e = .returned (.string (strOfNums s)) ∧ Rdr w' p b off n cap zs q false ∧ Turned p w w' := by
  have hC := fun (X : World) (hX : Below w.heap.size w X) => implGetText_any b off n cap at_ zs X hB.len (by have := hB.le; omega) hB.cap1 hB.cap2 (hr.later hX).row hB.rng
  rw [hg] at hC
  simp only [threeT] at hC
  have c0 : w.cell? ⟨p, 0, none⟩ = some (.slice (some ⟨b, off, none⟩) n cap) := by rw [cell_of_row w _ 0 _ _ _ hr.heap]; rfl
  have c1 : w.cell? ⟨p, 1, none⟩ = some (.int .i64 at_) := by rw [cell_of_row w _ 1 _ _ _ hr.heap]; rfl
  have c2 : w.cell? ⟨p, 2, none⟩ = some (.bool false) := by rw [cell_of_row w _ 2 _ _ _ hr.heap]; rfl
  have z1 : w.frozen? ⟨p, 1, none⟩ = false := frozen_of_row w _ _ _ _ hr.heap
  have HR : Hid (Rdr (w.drew.setCell ⟨p, 1, none⟩ (.int .i64 q)) p b off n cap zs q false ∧ Turned p w (w.drew.setCell ⟨p, 1, none⟩ (.int .i64 q))) := ⟨(hr.later (Below.refl _ _).drew).set q, (Turned.of_below (Below.refl _ _).drew).trans (Turned.of_set _ _ _ _)⟩
  clear hr hg hB
  go_enter Try.func52, Try.ntmps52
  go_wp2_with fail
  go_region_with (go_at_call 62; refine (hC _ ?_).mono ?_; exact (Below.refl _ _).drew; rintro e w' ⟨rfl, rfl⟩)
  all_goals
    go_wp2_with fail
    go_ret
    exact ⟨rfl, HR.out⟩

set_option maxHeartbeats 400000 in
theorem text_bad (p b off n cap : Nat) (zs : List Int) (at_ : Int) (w : World) (hB : Bts n cap zs) (hr : Rdr w p b off n cap zs at_ false) (hg : ¬ (getText zs at_).2.2 = true) :
    Calls Try.prog 52 #[.pointer (some ⟨p, 0, none⟩)] w fun e w' => e = .returned (.string ByteArray.empty) ∧ Rdr w' p b off n cap zs at_ true ∧ Turned p w w' := by
  have hC := fun (X : World) (hX : Below w.heap.size w X) => implGetText_any b off n cap at_ zs X hB.len (by have := hB.le; omega) hB.cap1 hB.cap2 (hr.later hX).row hB.rng
  obtain ⟨x, q, ok, hgg⟩ : ∃ x q ok, getText zs at_ = (x, q, ok) := ⟨_, _, _, rfl⟩
  rw [hgg] at hC hg
  obtain rfl : ok = false := by simpa using hg
  simp only [threeT] at hC
  have c0 : w.cell? ⟨p, 0, none⟩ = some (.slice (some ⟨b, off, none⟩) n cap) := by rw [cell_of_row w _ 0 _ _ _ hr.heap]; rfl
  have c1 : w.cell? ⟨p, 1, none⟩ = some (.int .i64 at_) := by rw [cell_of_row w _ 1 _ _ _ hr.heap]; rfl
  have c2 : w.cell? ⟨p, 2, none⟩ = some (.bool false) := by rw [cell_of_row w _ 2 _ _ _ hr.heap]; rfl
  have z1 : w.frozen? ⟨p, 2, none⟩ = false := frozen_of_row w _ _ _ _ hr.heap
  have HR : Hid (Rdr (w.drew.setCell ⟨p, 2, none⟩ (.bool true)) p b off n cap zs at_ true ∧ Turned p w (w.drew.setCell ⟨p, 2, none⟩ (.bool true))) := ⟨(hr.later (Below.refl _ _).drew).spoil, (Turned.of_below (Below.refl _ _).drew).trans (Turned.of_set _ _ _ _)⟩
  clear hr hg hB hgg
  go_enter Try.func52, Try.ntmps52
  go_wp2_with fail
  go_region_with (go_at_call 62; refine (hC _ ?_).mono ?_; exact (Below.refl _ _).drew; rintro e w' ⟨rfl, rfl⟩)
  all_goals
    go_wp2_with fail
    go_ret
    exact ⟨rfl, HR.out⟩

end Go.Proofs.Ytbllnmafilabpaa
