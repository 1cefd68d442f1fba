/- The program's checks of an atom and of a term's shape: they tell what is right. -/
import Derived.Test.YtgeedoeaepcmcaaGreatDoorTmM
import Derived.Test.YtgeedoeaepcmcaaGreatDoorFormM
import Derived.Shelf.Abstract
namespace Go.Proofs.YtgeedoeaepcmcaaGreatDoor
open Go.RowKit
set_option linter.unusedVariables false

theorem isSmall_any (x : Int) (w : World) :
    Calls Tryz.prog 71 #[.int .u8 x] w fun e w' => e = .returned (.bool (decide (97 ≤ x ∧ x ≤ 122))) ∧ w = w' := by
  by_cases h1 : 97 ≤ x
  · by_cases h2 : x ≤ 122
    · have hd : decide (97 ≤ x ∧ x ≤ 122) = true := by simp [h1, h2]
      rw [hd]
      go_enter Tryz.func71, Tryz.ntmps71
      go_wp2
      go_ret
      exact ⟨rfl, rfl⟩
    · have hd : decide (97 ≤ x ∧ x ≤ 122) = false := by simp; omega
      rw [hd]
      go_enter Tryz.func71, Tryz.ntmps71
      go_wp2
      go_ret
      exact ⟨rfl, rfl⟩
  · have hd : decide (97 ≤ x ∧ x ≤ 122) = false := by simp; omega
    rw [hd]
    go_enter Tryz.func71, Tryz.ntmps71
    go_wp2
    go_ret
    exact ⟨rfl, rfl⟩

theorem isDigit_any (x : Int) (w : World) :
    Calls Tryz.prog 82 #[.int .u8 x] w fun e w' => e = .returned (.bool (decide (48 ≤ x ∧ x ≤ 57))) ∧ w = w' := by
  by_cases h1 : 48 ≤ x
  · by_cases h2 : x ≤ 57
    · have hd : decide (48 ≤ x ∧ x ≤ 57) = true := by simp [h1, h2]
      rw [hd]
      go_enter Tryz.func82, Tryz.ntmps82
      go_wp2
      go_ret
      exact ⟨rfl, rfl⟩
    · have hd : decide (48 ≤ x ∧ x ≤ 57) = false := by simp; omega
      rw [hd]
      go_enter Tryz.func82, Tryz.ntmps82
      go_wp2
      go_ret
      exact ⟨rfl, rfl⟩
  · have hd : decide (48 ≤ x ∧ x ≤ 57) = false := by simp; omega
    rw [hd]
    go_enter Tryz.func82, Tryz.ntmps82
    go_wp2
    go_ret
    exact ⟨rfl, rfl⟩

/-- A byte that an atom may have behind its first. -/
def atB (x : Int) : Bool := decide (97 ≤ x ∧ x ≤ 122) || decide (48 ≤ x ∧ x ≤ 57) || x == 95

theorem isAtomByte_any (x : Int) (w : World) :
    Calls Tryz.prog 72 #[.int .u8 x] w fun e w' => e = .returned (.bool (atB x)) ∧ w = w' := by
  have hL := isSmall_any x w
  have hL2 := isDigit_any x w
  by_cases h1 : 97 ≤ x ∧ x ≤ 122
  · rw [show decide (97 ≤ x ∧ x ≤ 122) = true from by simp [h1]] at hL
    rw [show atB x = true from by simp [atB, h1]]
    clear h1 hL2
    go_enter Tryz.func72, Tryz.ntmps72
    go_wp2_with fail
    refine hL.mono ?_
    clear hL
    rintro e w' ⟨rfl, rfl⟩
    go_wp2_with fail
    go_ret
    exact ⟨rfl, rfl⟩
  rw [show decide (97 ≤ x ∧ x ≤ 122) = false from by simp; omega] at hL
  by_cases h2 : 48 ≤ x ∧ x ≤ 57
  · rw [show decide (48 ≤ x ∧ x ≤ 57) = true from by simp [h2]] at hL2
    rw [show atB x = true from by simp [atB, h2]]
    clear h1 h2
    go_enter Tryz.func72, Tryz.ntmps72
    go_wp2_with fail
    refine hL.mono ?_
    clear hL
    rintro e w' ⟨rfl, rfl⟩
    go_wp2_with fail
    refine hL2.mono ?_
    clear hL2
    rintro e w' ⟨rfl, rfl⟩
    go_wp2_with fail
    go_ret
    exact ⟨rfl, rfl⟩
  rw [show decide (48 ≤ x ∧ x ≤ 57) = false from by simp; omega] at hL2
  have hb : atB x = (x == 95) := by
    have e1 : decide (97 ≤ x ∧ x ≤ 122) = false := by simp; omega
    have e2 : decide (48 ≤ x ∧ x ≤ 57) = false := by simp; omega
    simp only [atB, e1, e2, Bool.false_or]
  rw [hb]
  clear h1 h2 hb
  go_enter Tryz.func72, Tryz.ntmps72
  go_wp2_with fail
  refine hL.mono ?_
  clear hL
  rintro e w' ⟨rfl, rfl⟩
  go_wp2_with fail
  refine hL2.mono ?_
  clear hL2
  rintro e w' ⟨rfl, rfl⟩
  go_wp2_with fail
  go_ret
  exact ⟨rfl, rfl⟩

theorem atB_iff (x : Int) : atB x = true ↔ (97 ≤ x ∧ x ≤ 122) ∨ (48 ≤ x ∧ x ≤ 57) ∨ x = 95 := by
  simp only [atB, Bool.or_eq_true, decide_eq_true_eq, beq_iff_eq, or_assoc]

set_option maxHeartbeats 1000000 in
theorem atomOk_any (s : ByteArray) (w : World) (hs : s.size ≤ 9223372036854775807) :
    Calls Tryz.prog 57 #[.string s] w fun e w' => ∃ b : Bool, e = .returned (.bool b) ∧ (b = true ↔ AtomP s) ∧ w = w' := by
  by_cases h0 : s.size < 1
  · have HF : Hid (¬ AtomP s) := fun h => by have := h.2.1; omega
    have hz : s.size = 0 := by omega
    have hb : decide ((s.size : Int) < 1) = true := by rw [hz]; rfl
    clear h0 hs hz
    go_enter Tryz.func57, Tryz.ntmps57
    go_wp2_with fail
    go_ret
    exact ⟨false, rfl, iff_no HF.out, rfl⟩
  by_cases h1 : s.size ≤ 20
  case neg =>
    have HF : Hid (¬ AtomP s) := fun h => by have := h.2.2; omega
    have hb : decide ((20 : Int) < s.size) = true := by simp; omega
    have hb2 : decide ((s.size : Int) < 1) = false := by simp; omega
    clear h0 h1 hs
    go_enter Tryz.func57, Tryz.ntmps57
    go_wp2
    go_ret
    exact ⟨false, rfl, iff_no HF.out, rfl⟩
  have hlt0 : 0 < s.size := by omega
  obtain ⟨x0, hx0⟩ : ∃ x, (s[0].toNat : Int) = x := ⟨_, rfl⟩
  have HX0 : Hid ((s[0].toNat : Int) = x0) := hx0
  have hL := isSmall_any x0 w
  by_cases hsm0 : 97 ≤ x0 ∧ x0 ≤ 122
  case neg =>
    rw [show decide (97 ≤ x0 ∧ x0 ≤ 122) = false from by simp; omega] at hL
    have HF : Hid (¬ AtomP s) := fun h => by
      have := h.1 0 hlt0
      rw [HX0.out] at this
      rcases this with h | h
      · exact hsm0 h
      · exact h.1 rfl
    clear hsm0
    go_enter Tryz.func57, Tryz.ntmps57
    go_wp2_with fail
    refine hL.mono ?_
    clear hL
    rintro e w' ⟨rfl, rfl⟩
    go_wp2
    go_ret
    exact ⟨false, rfl, iff_no HF.out, rfl⟩
  rw [show decide (97 ≤ x0 ∧ x0 ≤ 122) = true from by simp [hsm0]] at hL
  have HS0 : Hid (97 ≤ x0 ∧ x0 ≤ 122) := hsm0
  clear hsm0
  go_enter Tryz.func57, Tryz.ntmps57
  go_wp2_with fail
  refine hL.mono ?_
  clear hL
  rintro e w' ⟨rfl, rfl⟩
  clear hx0
  go_wp2_with fail
  go_loop [20] (fun i => ∃ k : Nat, k ≤ s.size ∧ i = .int .i64 k ∧ Hid (∀ (j : Nat) (h : j < s.size), j < k → ChOk j (s[j].toNat : Int))) (fun i => s.size - (intOf i).toNat)
  case atStart => exact ⟨0, Nat.zero_le _, rfl, fun j _ hj => by omega⟩
  case round =>
    obtain ⟨k, hk, rfl, HD⟩ := hrel
    by_cases hlt : k < s.size
    · obtain ⟨x, hx⟩ : ∃ x, (s[k].toNat : Int) = x := ⟨_, rfl⟩
      have HX : Hid ((s[k].toNat : Int) = x) := hx
      have HN : Hid (ChOk k x → ∀ (j : Nat) (h : j < s.size), j < k + 1 → ChOk j (s[j].toNat : Int)) := fun hc j hj hjk => by
        by_cases h : j < k
        · exact HD.out j hj h
        · obtain rfl : j = k := by omega
          rw [HX.out]; exact hc
      have HF : Hid (¬ ChOk k x → ¬ AtomP s) := fun hc ha => hc (by rw [← HX.out]; exact ha.1 k hlt)
      have HZ : Hid (k = 0 → 97 ≤ x ∧ x ≤ 122) := fun h => by subst h; rw [← HX.out, HX0.out]; exact HS0.out
      have hL := isAtomByte_any x w
      by_cases hat : atB x = true
      · rw [hat] at hL
        have HRR : Hid (∀ (j : Nat) (h : j < s.size), j < k + 1 → ChOk j (s[j].toNat : Int)) := HN.out (by
          by_cases hk0 : k = 0
          · exact .inl (HZ.out hk0)
          · rcases (atB_iff x).1 hat with h | h
            · exact .inl h
            · exact .inr ⟨hk0, h⟩)
        clear HN HF HX HD HZ hat
        go_wp2_with fail
        refine hL.mono ?_
        clear hL
        rintro e w' ⟨rfl, rfl⟩
        go_wp2_with fail
        go_round
        case rel => exact ⟨k + 1, by omega, by go_num, HRR⟩
        case measure => simp [intOf]; omega
      · have hatf : atB x = false := by simpa using hat
        rw [hatf] at hL
        have HR : Hid (¬ AtomP s) := HF.out (fun h => hat ((atB_iff x).2 (by rcases h with h | h; exact .inl h; exact .inr h.2)))
        clear HN HF HX HD HZ hat hatf
        go_wp2_with fail
        refine hL.mono ?_
        clear hL
        rintro e w' ⟨rfl, rfl⟩
        go_wp2_with fail
        go_ret
        exact ⟨false, rfl, iff_no HR.out, rfl⟩
    · have HF : Hid (AtomP s) := ⟨fun j hj => HD.out j hj (by omega), by omega, h1⟩
      have hb : decide ((k : Int) < s.size) = false := by simp; omega
      clear hb HD
      go_wp2_with fail
      go_ret
      exact .inr ⟨rfl, HF.out, rfl⟩

end Go.Proofs.YtgeedoeaepcmcaaGreatDoor

/- The program's check of a whole term: it tells what is right. -/
namespace Go.Proofs.YtgeedoeaepcmcaaGreatDoor
open Go.RowKit
set_option linter.unusedVariables false

/-- Only block p was written; new ones may have come. -/
structure Turned (p : Nat) (w w' : World) : Prop where
  os : w'.os = w.os
  tape : w'.tape = w.tape
  output : w'.output = w.output
  size : w.heap.size ≤ w'.heap.size
  block : ∀ g, g < w.heap.size → g ≠ p → w'.heap[g]? = w.heap[g]?

theorem Turned.refl (p : Nat) (w : World) : Turned p w w := ⟨rfl, rfl, rfl, Nat.le_refl _, fun _ _ _ => rfl⟩
theorem Turned.trans {p : Nat} {a b c : World} (h : Turned p a b) (k : Turned p b c) : Turned p a c :=
  ⟨k.os.trans h.os, k.tape.trans h.tape, k.output.trans h.output, Nat.le_trans h.size k.size, fun g hg hn => (k.block g (Nat.lt_of_lt_of_le hg h.size) hn).trans (h.block g hg hn)⟩
theorem Turned.of_below {p : Nat} {a b : World} (h : Below a.heap.size a b) : Turned p a b := ⟨h.os, h.tape, h.output, h.size, fun g hg _ => h.block g hg⟩
theorem Turned.of_set (w : World) (g o : Nat) (v : Value) : Turned g w (w.setCell ⟨g, o, none⟩ v) :=
  ⟨rfl, rfl, rfl, by simp, fun j _ hn => heap_setCell_other w ⟨g, o, none⟩ j v hn⟩
/-- What lies below the block is as it was. -/
theorem Turned.below {p B : Nat} {a b : World} (h : Turned p a b) (hp : B ≤ p) (hB : B ≤ a.heap.size) : Below B a b := ⟨h.os, h.tape, h.output, h.size, fun g hg => h.block g (by omega) (by omega)⟩

/-- The contract of the check of a term, at a depth, with a count of how many may be left. -/
def FitC (f d : Nat) : Prop := ∀ (w0 : World) (k n : Int) (s : ByteArray) (l : Value) (ts : List (Tm d)) (deep L : Int) (p : Nat) (w : World), RdL d w0 l ts → WfL d ts → s.size ≤ 9223372036854775807 →
  Below w0.heap.size w0 w → w0.heap.size ≤ p → w.heap[p]? = some (.cells #[.int .i64 L] 3 (0, 0)) → 1 ≤ deep → deep ≤ 1000 → 0 ≤ L → L ≤ 1000000 →
  Calls Tryz.prog f #[.agg #[.int .i64 k, .int .i64 n, .string s, l], .int .i64 deep, .pointer (some ⟨p, 0, none⟩)] w fun e w' => ∃ b : Bool, e = .returned (.bool b) ∧ (b = true ↔ Right d k n s ts (9 - deep) L) ∧
    (b = true → w'.heap[p]? = some (.cells #[.int .i64 (L - (1 + cntL d ts : Nat))] 3 (0, 0))) ∧ Turned p w w'

end Go.Proofs.YtgeedoeaepcmcaaGreatDoor

/- An atom as an expression: what the program tells of it. -/
namespace Go.Proofs.YtgeedoeaepcmcaaGreatDoor
open Go.RowKit
set_option linter.unusedVariables false

/-- One of the three words. -/
def Wrd (s : ByteArray) : Prop := s.toList = [99, 97, 115, 101] ∨ s.toList = [111, 102] ∨ s.toList = [101, 110, 100]

theorem wrd_iff {s : ByteArray} {b x1 x2 x3 : Bool} (h1 : (s.toList == [99, 97, 115, 101]) = x1) (h2 : (s.toList == [111, 102]) = x2) (h3 : (s.toList == [101, 110, 100]) = x3) (hb : b = true ↔ AtomP s) :
    ((b && !x1 && !x2 && !x3) = true ↔ AtomP s ∧ ¬ Wrd s) := by
  subst h1 h2 h3
  unfold Wrd
  rw [← hb]
  simp [and_assoc]

theorem exprAtomOk_any (s : ByteArray) (w : World) (hs : s.size ≤ 9223372036854775807) :
    Calls Tryz.prog 38 #[.string s] w fun e w' => ∃ b : Bool, e = .returned (.bool b) ∧ (b = true ↔ AtomP s ∧ ¬ Wrd s) ∧ w = w' := by
  have hA := atomOk_any s w hs
  obtain ⟨x1, e1⟩ : ∃ x, (s.toList == [99, 97, 115, 101]) = x := ⟨_, rfl⟩
  obtain ⟨x2, e2⟩ : ∃ x, (s.toList == [111, 102]) = x := ⟨_, rfl⟩
  obtain ⟨x3, e3⟩ : ∃ x, (s.toList == [101, 110, 100]) = x := ⟨_, rfl⟩
  have HE : Hid (∀ b : Bool, (b = true ↔ AtomP s) → ((b && !x1 && !x2 && !x3) = true ↔ AtomP s ∧ ¬ Wrd s)) := fun b hb => wrd_iff e1 e2 e3 hb
  go_enter Tryz.func38, Tryz.ntmps38
  go_wp2_with fail
  refine hA.mono ?_
  clear hA
  rintro e w' ⟨b, rfl, hb, rfl⟩
  have HB := HE.out b hb
  clear hb HE hs
  cases b
  · go_wp2_with fail
    go_ret
    exact ⟨false, rfl, HB, rfl⟩
  · cases x1
    · cases x2
      · cases x3
        · go_wp2_with fail
          go_ret
          exact ⟨true, rfl, HB, rfl⟩
        · go_wp2_with fail
          go_ret
          exact ⟨false, rfl, HB, rfl⟩
      · go_wp2_with fail
        go_ret
        exact ⟨false, rfl, HB, rfl⟩
    · go_wp2_with fail
      go_ret
      exact ⟨false, rfl, HB, rfl⟩

theorem exprFields_atom (s : ByteArray) (w : World) (hs : s.size ≤ 9223372036854775807) :
    Calls Tryz.prog 73 #[.agg #[.int .i64 2, .int .i64 0, .string s, .slice none 0 0, .slice none 0 0]] w fun e w' => ∃ b : Bool, e = .returned (.bool b) ∧ (b = true ↔ AtomP s ∧ ¬ Wrd s) ∧ Below w.heap.size w w' := by
  obtain ⟨W, hW⟩ : ∃ W, W = w.alloc (.cells #[.int .i64 2, .int .i64 0, .string s, .slice none 0 0, .slice none 0 0] 39) := ⟨_, rfl⟩
  have hA : Below w.heap.size w W := by rw [hW]; exact (Below.refl _ _).alloc (Nat.le_refl _) _
  have hB1 : W.heap[w.heap.size]? = some (.cells #[.int .i64 2, .int .i64 0, .string s, .slice none 0 0, .slice none 0 0] 39 (0, 0)) := by rw [hW]; exact heap_alloc_new w _
  have HW : Hid (W = _) := hW
  have hC := exprAtomOk_any s W hs
  rw [hW] at hC
  clear hW
  go_enter Tryz.func73, Tryz.ntmps73
  go_wp2_with fail
  refine hC.mono ?_
  clear hC
  rintro e w' ⟨b, rfl, hb, rfl⟩
  have HB : Hid (b = true ↔ AtomP s ∧ ¬ Wrd s) := hb
  have HBL : Hid (Below w.heap.size w _) := hA
  clear hb hA
  cases b
  · go_wp2_with fail
    go_ret
    exact ⟨false, rfl, HB.out, by rw [HW.out] at HBL; exact HBL.out⟩
  · go_wp2_with fail
    go_ret
    exact ⟨true, rfl, by simpa using HB.out, by rw [HW.out] at HBL; exact HBL.out⟩

theorem expressionFits_atom (s : ByteArray) (p : Nat) (w : World) (hs : s.size ≤ 9223372036854775807) (hcell : w.heap[p]? = some (.cells #[.int .i64 300] 3 (0, 0))) :
    Calls Tryz.prog 61 #[.agg #[.int .i64 2, .int .i64 0, .string s, .slice none 0 0, .slice none 0 0], .int .i64 1, .pointer (some ⟨p, 0, none⟩)] w fun e w' => ∃ b : Bool, e = .returned (.bool b) ∧ (b = true ↔ AtomP s ∧ ¬ Wrd s) ∧ Turned p w w' := by
  have hpz : p < w.heap.size := Nat.lt_of_not_le fun h => by rw [Array.getElem?_eq_none h] at hcell; cases hcell
  have c0 : w.cell? ⟨p, 0, none⟩ = some (.int .i64 300) := by rw [cell_of_row w _ 0 _ _ _ hcell]; rfl
  have z0 : w.frozen? ⟨p, 0, none⟩ = false := frozen_of_row w _ _ _ _ hcell
  obtain ⟨W, hW⟩ : ∃ W, W = w.setCell ⟨p, 0, none⟩ (.int .i64 299) := ⟨_, rfl⟩
  have hWz : W.heap.size = w.heap.size := by rw [hW]; simp
  have hWp : W.heap[p]? = some (.cells #[.int .i64 299] 3 (0, 0)) := by rw [hW]; exact heap_setCell_same w p 0 _ _ _ hcell
  obtain ⟨V, hV⟩ : ∃ V, V = W.alloc (.cells #[.int .i64 2, .int .i64 0, .string s, .slice none 0 0, .slice none 0 0] 39) := ⟨_, rfl⟩
  have hA : Below W.heap.size W V := by rw [hV]; exact (Below.refl _ _).alloc (Nat.le_refl _) _
  have hT : Turned p w V := Turned.trans (by rw [hW]; exact Turned.of_set _ _ _ _) (Turned.of_below hA)
  have hVt : V.heap[w.heap.size]? = some (.cells #[.int .i64 2, .int .i64 0, .string s, .slice none 0 0, .slice none 0 0] 39 (0, 0)) := by
    rw [hV, ← hWz]; exact heap_alloc_new W _
  have hVz : V.heap.size = w.heap.size + 1 := by rw [hV]; simp [hWz]
  have hC := exprFields_atom s V hs
  rw [hV, hW] at hC
  have HV : Hid (V = _) := hV
  have HW : Hid (W = _) := hW
  clear hV hW hWp hA
  go_enter Tryz.func61, Tryz.ntmps61
  go_wp2_with fail
  refine hC.mono ?_
  clear hC
  rintro e w1 ⟨b, rfl, hb, hB⟩
  rw [← HW.out, ← HV.out] at hB
  have hT1 : Turned p w w1 := hT.trans (Turned.of_below hB)
  have HB : Hid (b = true ↔ AtomP s ∧ ¬ Wrd s) := hb
  have hVt1 := (hB.block _ (by omega)).trans hVt
  have c0 : w1.cell? ⟨w.heap.size, 0, none⟩ = some (.int .i64 2) := by rw [cell_of_row w1 _ 0 _ _ _ hVt1]; rfl
  have c3 : w1.cell? ⟨w.heap.size, 3, none⟩ = some (.slice none 0 0) := by rw [cell_of_row w1 _ 3 _ _ _ hVt1]; rfl
  have c4 : w1.cell? ⟨w.heap.size, 4, none⟩ = some (.slice none 0 0) := by rw [cell_of_row w1 _ 4 _ _ _ hVt1]; rfl
  clear hb hB HW HV hT hVz hVt hWz hVt1
  cases b
  · go_wp2_with fail
    go_ret
    exact ⟨false, rfl, HB.out, hT1⟩
  · go_wp2_with fail
    refine wp_loop_rounds 1 ?_
    rw [rounds_succ]
    go_wp2_with fail
    refine wp_loop_rounds 1 ?_
    rw [rounds_succ]
    go_wp2_with fail
    go_ret
    exact ⟨true, rfl, by simpa using HB.out, hT1⟩

theorem exprOk_atom (s : ByteArray) (w : World) (hs : s.size ≤ 9223372036854775807) :
    Calls Tryz.prog 40 #[.agg #[.int .i64 2, .int .i64 0, .string s, .slice none 0 0, .slice none 0 0]] w fun e w' => ∃ b : Bool, e = .returned (.bool b) ∧ (b = true ↔ AtomP s ∧ ¬ Wrd s) ∧ Below w.heap.size w w' := by
  obtain ⟨W, hW⟩ : ∃ W, W = w.alloc (.cells #[.int .i64 2, .int .i64 0, .string s, .slice none 0 0, .slice none 0 0] 39) := ⟨_, rfl⟩
  obtain ⟨V, hV⟩ : ∃ V, V = W.alloc (.cells #[.int .i64 300] 3) := ⟨_, rfl⟩
  have hA : Below w.heap.size w V := by rw [hV, hW]; exact ((Below.refl _ _).alloc (Nat.le_refl _) _).alloc (by simp) _
  have hWz : W.heap.size = w.heap.size + 1 := by rw [hW]; simp
  have hB1 : V.heap[W.heap.size]? = some (.cells #[.int .i64 300] 3 (0, 0)) := by rw [hV]; exact heap_alloc_new W _
  have hVz : V.heap.size = w.heap.size + 2 := by rw [hV]; simp [hWz]
  have hC := expressionFits_atom s W.heap.size V hs hB1
  rw [hWz] at hC
  rw [hV, hW] at hC
  have HV : Hid (V = _) := hV
  have HW : Hid (W = _) := hW
  clear hV hW hB1
  go_enter Tryz.func40, Tryz.ntmps40
  go_wp2_with fail
  refine hC.mono ?_
  clear hC
  rintro e w1 ⟨b, rfl, hb, hT⟩
  rw [← HW.out, ← HV.out] at hT
  have HBL : Hid (Below w.heap.size w w1) := hA.trans (hT.below (by omega) (by omega))
  have HB : Hid (b = true ↔ AtomP s ∧ ¬ Wrd s) := hb
  clear hb hT hA HW HV hWz hVz
  go_wp2_with fail
  go_ret
  exact ⟨b, rfl, HB.out, HBL.out⟩

end Go.Proofs.YtgeedoeaepcmcaaGreatDoor

/- The program's and the model's tests of a byte of a token. -/
namespace Go.Proofs.YtgeedoeaepcmcaaGreatDoor
open Go.RowKit
set_option linter.unusedVariables false

/-- A byte that a name may begin with. -/
def lgB (x : Int) : Bool := decide (65 ≤ x ∧ x ≤ 90) || x == 95
/-- A small letter. -/
def smB (x : Int) : Bool := decide (97 ≤ x ∧ x ≤ 122)
/-- A digit. -/
def dgB (x : Int) : Bool := decide (48 ≤ x ∧ x ≤ 57)
/-- A byte that a name may have. -/
def nmB (x : Int) : Bool := atB x || lgB x

theorem beginsName_any (x : Int) (w : World) : Calls Tryz.prog 58 #[.int .u8 x] w fun e w' => e = .returned (.bool (lgB x)) ∧ w = w' := by
  by_cases h1 : 65 ≤ x
  · by_cases h2 : x ≤ 90
    · rw [show lgB x = true from by simp [lgB, h1, h2]]
      go_enter Tryz.func58, Tryz.ntmps58
      go_wp2
      go_ret
      exact ⟨rfl, rfl⟩
    · rw [show lgB x = (x == 95) from by simp [lgB, h2]]
      go_enter Tryz.func58, Tryz.ntmps58
      go_wp2
      go_ret
      exact ⟨rfl, rfl⟩
  · rw [show lgB x = (x == 95) from by simp [lgB, h1]]
    go_enter Tryz.func58, Tryz.ntmps58
    go_wp2
    go_ret
    exact ⟨rfl, rfl⟩

theorem isNameByte_any (x : Int) (w : World) : Calls Tryz.prog 60 #[.int .u8 x] w fun e w' => e = .returned (.bool (nmB x)) ∧ w = w' := by
  have hL := isAtomByte_any x w
  have hL2 := beginsName_any x w
  unfold nmB
  cases h : atB x
  · rw [h] at hL
    rw [Bool.false_or]
    clear h
    generalize lgB x = b at hL2 ⊢
    go_enter Tryz.func60, Tryz.ntmps60
    go_wp2_with fail
    refine hL.mono ?_
    clear hL
    rintro e w' ⟨rfl, rfl⟩
    go_wp2_with fail
    refine hL2.mono ?_
    clear hL2
    rintro e w' ⟨rfl, rfl⟩
    go_wp2_with fail
    go_ret
    exact ⟨rfl, rfl⟩
  · rw [h] at hL
    rw [Bool.true_or]
    clear h hL2
    go_enter Tryz.func60, Tryz.ntmps60
    go_wp2_with fail
    refine hL.mono ?_
    clear hL
    rintro e w' ⟨rfl, rfl⟩
    go_wp2_with fail
    go_ret
    exact ⟨rfl, rfl⟩

theorem specSmall_any (x : Int) (w : World) (h0 : 0 ≤ x) (h1 : x ≤ 255) : Calls Tryz.prog 49 #[.int .u8 x] w fun e w' => e = .returned (.bool (smB x)) ∧ w = w' := by
  have hL := specIn_any x 97 122 w
  unfold smB
  generalize decide (97 ≤ x ∧ x ≤ 122) = b at hL ⊢
  go_enter Tryz.func49, Tryz.ntmps49
  go_wp2_with fail
  refine hL.mono ?_
  clear hL
  rintro e w' ⟨rfl, rfl⟩
  go_wp2_with fail
  go_ret
  exact ⟨rfl, rfl⟩

theorem specDigit_any (x : Int) (w : World) (h0 : 0 ≤ x) (h1 : x ≤ 255) : Calls Tryz.prog 50 #[.int .u8 x] w fun e w' => e = .returned (.bool (dgB x)) ∧ w = w' := by
  have hL := specIn_any x 48 57 w
  unfold dgB
  generalize decide (48 ≤ x ∧ x ≤ 57) = b at hL ⊢
  go_enter Tryz.func50, Tryz.ntmps50
  go_wp2_with fail
  refine hL.mono ?_
  clear hL
  rintro e w' ⟨rfl, rfl⟩
  go_wp2_with fail
  go_ret
  exact ⟨rfl, rfl⟩

theorem specLarge_any (x : Int) (w : World) (h0 : 0 ≤ x) (h1 : x ≤ 255) : Calls Tryz.prog 48 #[.int .u8 x] w fun e w' => e = .returned (.bool (lgB x)) ∧ w = w' := by
  have hL := specIn_any x 65 90 w
  unfold lgB
  generalize hb : decide (65 ≤ x ∧ x ≤ 90) = b at hL ⊢
  clear hb
  cases b
  · rw [Bool.false_or]
    go_enter Tryz.func48, Tryz.ntmps48
    go_wp2_with fail
    refine hL.mono ?_
    clear hL
    rintro e w' ⟨rfl, rfl⟩
    go_wp2_with fail
    go_ret
    exact ⟨rfl, rfl⟩
  · rw [Bool.true_or]
    go_enter Tryz.func48, Tryz.ntmps48
    go_wp2_with fail
    refine hL.mono ?_
    clear hL
    rintro e w' ⟨rfl, rfl⟩
    go_wp2_with fail
    go_ret
    exact ⟨rfl, rfl⟩

end Go.Proofs.YtgeedoeaepcmcaaGreatDoor

/- How far a run of bytes goes, and what a name is: the program's and the model's. -/
namespace Go.Proofs.YtgeedoeaepcmcaaGreatDoor
open Go.RowKit
set_option linter.unusedVariables false

/-- The run of bytes of which p holds goes from place i to place k. -/
def RunTo (p : Int → Bool) (s : ByteArray) (i k : Nat) : Prop :=
  i ≤ k ∧ k ≤ s.size ∧ (∀ (j : Nat) (h : j < s.size), i ≤ j → j < k → p (s[j].toNat : Int) = true) ∧ (∀ h : k < s.size, p (s[k].toNat : Int) = false)

theorem RunTo.unique {p : Int → Bool} {s : ByteArray} {i k k' : Nat} (h : RunTo p s i k) (h' : RunTo p s i k') : k = k' := by
  obtain ⟨a1, a2, a3, a4⟩ := h
  obtain ⟨b1, b2, b3, b4⟩ := h'
  rcases Nat.lt_trichotomy k k' with h | h | h
  · have := a4 (by omega); rw [b3 k (by omega) a1 h] at this; cases this
  · exact h
  · have := b4 (by omega); rw [a3 k' (by omega) b1 h] at this; cases this

/-- What a test of a byte answers. -/
def ByteTold (g : Nat) (p : Int → Bool) : Prop := ∀ (x : Int) (w : World), 0 ≤ x → x ≤ 255 → Calls Tryz.prog g #[.int .u8 x] w fun e w' => e = .returned (.bool (p x)) ∧ w = w'

set_option maxHeartbeats 1000000 in
theorem runSize_any (g : Nat) (p : Int → Bool) (eg : ∀ args w, (callFunc g args).run Tryz.prog w = .ok (.enter g args) w) (H : ByteTold g p) (s : ByteArray) (w : World) (hs : s.size ≤ 9223372036854775807) :
    Calls Tryz.prog 59 #[.string s, .func (.func g) #[] #[]] w fun e w' => ∃ k : Nat, e = .returned (.int .i64 k) ∧ Hid (RunTo p s 0 k) ∧ w = w' := by
  have HH : Hid (ByteTold g p) := H
  clear H
  go_enter Tryz.func59, Tryz.ntmps59
  go_wp2_with fail
  go_loop [5] (fun i => ∃ k : Nat, k ≤ s.size ∧ i = .int .i64 k ∧ Hid (∀ (j : Nat) (h : j < s.size), j < k → p (s[j].toNat : Int) = true)) (fun i => s.size - (intOf i).toNat)
  case atStart => exact ⟨0, Nat.zero_le _, rfl, fun j _ hj => by omega⟩
  case round =>
    obtain ⟨k, hk, rfl, HD⟩ := hrel
    by_cases hlt : k < s.size
    · obtain ⟨x, hx⟩ : ∃ x, (s[k].toNat : Int) = x := ⟨_, rfl⟩
      have HX : Hid ((s[k].toNat : Int) = x) := hx
      have hx0 : 0 ≤ x := by omega
      have hx1 : x ≤ 255 := by have := s[k].toNat_lt; omega
      have hL := HH.out x w hx0 hx1
      cases hp : p x
      · rw [hp] at hL
        have HR : Hid (RunTo p s 0 k) := ⟨Nat.zero_le _, hk, fun j hj _ hjk => HD.out j hj hjk, fun h => by rw [HX.out]; exact hp⟩
        clear hp HD HH HX
        go_wp2_with (go_at_fn g; refine hL.mono ?_; rintro e w' ⟨rfl, rfl⟩)
        go_ret
        exact ⟨k, rfl, HR, rfl⟩
      · rw [hp] at hL
        have HR : Hid (∀ (j : Nat) (h : j < s.size), j < k + 1 → p (s[j].toNat : Int) = true) := fun j hj hjk => by
          by_cases h : j < k
          · exact HD.out j hj h
          · obtain rfl : j = k := by omega
            rw [HX.out]; exact hp
        clear hp HD HH HX
        go_wp2_with (go_at_fn g; refine hL.mono ?_; rintro e w' ⟨rfl, rfl⟩)
        go_round
        case rel => exact ⟨k + 1, by omega, by go_num, HR⟩
        case measure => simp [intOf]; omega
    · have hke : k = s.size := by omega
      have HR : Hid (RunTo p s 0 k) := ⟨Nat.zero_le _, hk, fun j hj _ hjk => HD.out j hj hjk, fun h => absurd h hlt⟩
      have hb : decide ((k : Int) < s.size) = false := by simp; omega
      clear HD HH hke
      go_wp2_with fail
      go_ret
      exact ⟨k, rfl, HR, rfl⟩

theorem enters_isDigit : ∀ args w, (callFunc 82 args).run Tryz.prog w = .ok (.enter 82 args) w := enters_of Tryz.func82 (by kernel_rfl) rfl
theorem enters_isAtomByte : ∀ args w, (callFunc 72 args).run Tryz.prog w = .ok (.enter 72 args) w := enters_of Tryz.func72 (by kernel_rfl) rfl
theorem enters_isNameByte : ∀ args w, (callFunc 60 args).run Tryz.prog w = .ok (.enter 60 args) w := enters_of Tryz.func60 (by kernel_rfl) rfl
theorem runDigits : ∀ (s : ByteArray) (w : World), s.size ≤ 9223372036854775807 → Calls Tryz.prog 59 #[.string s, .func (.func 82) #[] #[]] w fun e w' => ∃ k : Nat, e = .returned (.int .i64 k) ∧ Hid (RunTo dgB s 0 k) ∧ w = w' := runSize_any 82 dgB enters_isDigit (fun x w _ _ => isDigit_any x w)
theorem runAtom : ∀ (s : ByteArray) (w : World), s.size ≤ 9223372036854775807 → Calls Tryz.prog 59 #[.string s, .func (.func 72) #[] #[]] w fun e w' => ∃ k : Nat, e = .returned (.int .i64 k) ∧ Hid (RunTo atB s 0 k) ∧ w = w' := runSize_any 72 atB enters_isAtomByte (fun x w _ _ => isAtomByte_any x w)
theorem runName : ∀ (s : ByteArray) (w : World), s.size ≤ 9223372036854775807 → Calls Tryz.prog 59 #[.string s, .func (.func 60) #[] #[]] w fun e w' => ∃ k : Nat, e = .returned (.int .i64 k) ∧ Hid (RunTo nmB s 0 k) ∧ w = w' := runSize_any 60 nmB enters_isNameByte (fun x w _ _ => isNameByte_any x w)

/-- A byte that a name may have at place i. -/
def NmOk (i : Nat) (x : Int) : Prop := lgB x = true ∨ (i ≠ 0 ∧ (smB x = true ∨ dgB x = true))

/-- A name. -/
def NameP (s : ByteArray) : Prop := (∀ (i : Nat) (h : i < s.size), NmOk i (s[i].toNat : Int)) ∧ 1 ≤ s.size ∧ s.size ≤ 20

theorem nmB_iff (x : Int) : nmB x = true ↔ lgB x = true ∨ smB x = true ∨ dgB x = true := by
  simp only [nmB, atB, lgB, smB, dgB, Bool.or_eq_true, decide_eq_true_eq, beq_iff_eq]
  constructor <;> intro h <;> omega

theorem nameP_iff (s : ByteArray) (h0 : 0 < s.size) : NameP s ↔ s.size ≤ 20 ∧ lgB (s[0].toNat : Int) = true ∧ RunTo nmB s 0 s.size := by
  constructor
  · rintro ⟨h1, h2, h3⟩
    refine ⟨h3, ?_, Nat.zero_le _, Nat.le_refl _, fun j hj _ _ => ?_, fun h => absurd h (Nat.lt_irrefl _)⟩
    · rcases h1 0 h0 with h | h
      · exact h
      · exact absurd rfl h.1
    · rw [nmB_iff]
      rcases h1 j hj with h | h
      · exact .inl h
      · exact .inr h.2
  · rintro ⟨h1, h2, _, _, h3, _⟩
    refine ⟨fun i hi => ?_, h0, h1⟩
    by_cases hi0 : i = 0
    · subst hi0; exact .inl h2
    · rcases (nmB_iff _).1 (h3 i hi (Nat.zero_le _) hi) with h | h
      · exact .inl h
      · exact .inr ⟨hi0, h⟩

end Go.Proofs.YtgeedoeaepcmcaaGreatDoor

/- Names and runs, the model's; names, the program's. -/
namespace Go.Proofs.YtgeedoeaepcmcaaGreatDoor
open Go.RowKit
set_option linter.unusedVariables false

set_option maxHeartbeats 1000000 in
theorem specVarOk_any (s : ByteArray) (w : World) (hs : s.size ≤ 9223372036854775807) :
    Calls Tryz.prog 33 #[.string s] w fun e w' => ∃ b : Bool, e = .returned (.bool b) ∧ (b = true ↔ NameP s) ∧ w = w' := by
  go_enter Tryz.func33, Tryz.ntmps33
  go_wp2_with fail
  go_loop [3] (fun i => ∃ k : Nat, k ≤ s.size ∧ i = .int .i64 k ∧ Hid (∀ (j : Nat) (h : j < s.size), j < k → NmOk j (s[j].toNat : Int))) (fun i => s.size - (intOf i).toNat)
  case atStart => exact ⟨0, Nat.zero_le _, rfl, fun j _ hj => by omega⟩
  case round =>
    obtain ⟨k, hk, rfl, HD⟩ := hrel
    by_cases hlt : k < s.size
    · obtain ⟨x, hx⟩ : ∃ x, (s[k].toNat : Int) = x := ⟨_, rfl⟩
      have HX : Hid ((s[k].toNat : Int) = x) := hx
      have hx0 : 0 ≤ x := by omega
      have hx1 : x ≤ 255 := by have := s[k].toNat_lt; omega
      have hG := specLarge_any x w hx0 hx1
      have hS := specSmall_any x w hx0 hx1
      have hDg := specDigit_any x w hx0 hx1
      have HN : Hid (NmOk k x → ∀ (j : Nat) (h : j < s.size), j < k + 1 → NmOk j (s[j].toNat : Int)) := fun hc j hj hjk => by
        by_cases h : j < k
        · exact HD.out j hj h
        · obtain rfl : j = k := by omega
          rw [HX.out]; exact hc
      have HF : Hid (¬ NmOk k x → ¬ NameP s) := fun hc ha => hc (by rw [← HX.out]; exact ha.1 k hlt)
      clear HX HD
      cases hg : lgB x
      · rw [hg] at hG
        by_cases hk0 : k = 0
        · have hb0 : ((k : Int) == 0) = true := by simp [hk0]
          have HR : Hid (¬ NameP s) := HF.out (fun h => by rcases h with h | h; rw [hg] at h; cases h; exact h.1 hk0)
          clear HF HN hg hk0 hS hDg
          go_wp2_with (go_at_call 48; refine hG.mono ?_; rintro e w' ⟨rfl, rfl⟩)
          go_ret
          exact ⟨false, rfl, iff_no HR.out, rfl⟩
        · have hb0 : ((k : Int) == 0) = false := by simp [hk0]
          cases hsm : smB x
          · rw [hsm] at hS
            cases hd : dgB x
            · rw [hd] at hDg
              have HR : Hid (¬ NameP s) := HF.out (fun h => by
                rcases h with h | ⟨_, h | h⟩
                · rw [hg] at h; cases h
                · rw [hsm] at h; cases h
                · rw [hd] at h; cases h)
              clear HF HN hg hk0 hsm hd
              go_wp2_with (first | (go_at_call 48; refine hG.mono ?_; rintro e w' ⟨rfl, rfl⟩) | (go_at_call 49; refine hS.mono ?_; rintro e w' ⟨rfl, rfl⟩) | (go_at_call 50; refine hDg.mono ?_; rintro e w' ⟨rfl, rfl⟩))
              go_ret
              exact ⟨false, rfl, iff_no HR.out, rfl⟩
            · rw [hd] at hDg
              have HR : Hid (∀ (j : Nat) (h : j < s.size), j < k + 1 → NmOk j (s[j].toNat : Int)) := HN.out (.inr ⟨hk0, .inr hd⟩)
              clear HF HN hg hk0 hsm hd
              go_wp2_with (first | (go_at_call 48; refine hG.mono ?_; rintro e w' ⟨rfl, rfl⟩) | (go_at_call 49; refine hS.mono ?_; rintro e w' ⟨rfl, rfl⟩) | (go_at_call 50; refine hDg.mono ?_; rintro e w' ⟨rfl, rfl⟩))
              go_round
              case rel => exact ⟨k + 1, by omega, by go_num, HR⟩
              case measure => simp [intOf]; omega
          · rw [hsm] at hS
            have HR : Hid (∀ (j : Nat) (h : j < s.size), j < k + 1 → NmOk j (s[j].toNat : Int)) := HN.out (.inr ⟨hk0, .inl hsm⟩)
            clear HF HN hg hk0 hsm hDg
            go_wp2_with (first | (go_at_call 48; refine hG.mono ?_; rintro e w' ⟨rfl, rfl⟩) | (go_at_call 49; refine hS.mono ?_; rintro e w' ⟨rfl, rfl⟩))
            go_round
            case rel => exact ⟨k + 1, by omega, by go_num, HR⟩
            case measure => simp [intOf]; omega
      · rw [hg] at hG
        have HR : Hid (∀ (j : Nat) (h : j < s.size), j < k + 1 → NmOk j (s[j].toNat : Int)) := HN.out (.inl hg)
        clear HF HN hg hS hDg
        go_wp2_with (go_at_call 48; refine hG.mono ?_; rintro e w' ⟨rfl, rfl⟩)
        go_round
        case rel => exact ⟨k + 1, by omega, by go_num, HR⟩
        case measure => simp [intOf]; omega
    · have hL := specIn_any s.size 1 20 w
      go_wp2_with fail
      refine hL.mono ?_
      clear hL
      rintro e w' ⟨rfl, rfl⟩
      have HF : Hid ((decide (1 ≤ (s.size : Int)) && decide ((s.size : Int) ≤ 20)) = true ↔ NameP s) := by
        show _ ↔ _
        rw [Bool.and_eq_true, decide_eq_true_iff, decide_eq_true_iff]
        exact ⟨fun h => ⟨fun j hj => HD.out j hj (by omega), by omega, by omega⟩, fun h => ⟨by have := h.2.1; omega, by have := h.2.2; omega⟩⟩
      go_wp2
      go_ret
      exact ⟨_, rfl, HF.out, rfl⟩

set_option maxHeartbeats 1000000 in
theorem nameOk_any (s : ByteArray) (w : World) (hs : s.size ≤ 9223372036854775807) :
    Calls Tryz.prog 39 #[.string s] w fun e w' => ∃ b : Bool, e = .returned (.bool b) ∧ (b = true ↔ NameP s) ∧ w = w' := by
  by_cases h0 : s.size = 0
  · have HF : Hid (¬ NameP s) := fun h => by have := h.2.1; omega
    have he := (empty_iff s).2 h0
    clear h0
    go_enter Tryz.func39, Tryz.ntmps39
    go_wp2_with fail
    go_ret
    exact ⟨false, rfl, iff_no HF.out, rfl⟩
  have he := empty_no h0
  by_cases h1 : s.size ≤ 20
  case neg =>
    have HF : Hid (¬ NameP s) := fun h => by have := h.2.2; omega
    have hb : decide ((s.size : Int) ≤ 20) = false := by simp; omega
    clear h0 h1 hs
    go_enter Tryz.func39, Tryz.ntmps39
    go_wp2_with fail
    go_ret
    exact ⟨false, rfl, iff_no HF.out, rfl⟩
  have hlt0 : 0 < s.size := by omega
  have HI := nameP_iff s hlt0
  obtain ⟨x0, hx0⟩ : ∃ x, (s[0].toNat : Int) = x := ⟨_, rfl⟩
  rw [hx0] at HI
  have HII : Hid (NameP s ↔ s.size ≤ 20 ∧ lgB x0 = true ∧ RunTo nmB s 0 s.size) := HI
  clear HI
  have hL := beginsName_any x0 w
  cases hg : lgB x0
  · rw [hg] at hL
    have HF : Hid (¬ NameP s) := fun h => by have := (HII.out.1 h).2.1; rw [hg] at this; cases this
    clear hg HII
    go_enter Tryz.func39, Tryz.ntmps39
    go_wp2_with (go_at_call 58; refine hL.mono ?_; rintro e w' ⟨rfl, rfl⟩)
    go_ret
    exact ⟨false, rfl, iff_no HF.out, rfl⟩
  · rw [hg] at hL
    have hR := runName s w hs
    have HF : Hid (∀ k : Nat, RunTo nmB s 0 k → (((k : Int) == (s.size : Int)) = true ↔ NameP s)) := fun k hk => by
      rw [HII.out]
      constructor
      · intro h
        have : k = s.size := by have := (beq_iff_eq).1 h; omega
        exact ⟨h1, hg, by rw [← this]; exact hk⟩
      · intro h
        have := hk.unique h.2.2
        rw [this]; simp
    clear hg HII
    go_enter Tryz.func39, Tryz.ntmps39
    go_wp2_with (go_at_call 58; refine hL.mono ?_; rintro e w' ⟨rfl, rfl⟩)
    refine hR.mono ?_
    clear hR
    rintro e w' ⟨k, rfl, HK, rfl⟩
    have HB := HF.out k HK.out
    have HBB : Hid (((k : Int) == (s.size : Int)) = true ↔ NameP s) := HB
    clear HB HF HK
    go_wp2_with fail
    go_ret
    exact ⟨_, rfl, HBB.out, rfl⟩

end Go.Proofs.YtgeedoeaepcmcaaGreatDoor
