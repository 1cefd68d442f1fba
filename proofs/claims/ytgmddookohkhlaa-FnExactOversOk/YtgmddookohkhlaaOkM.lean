/- When a term is right, and that the model's checks tell it. -/
import Derived.Test.YtgmddookohkhlaaTmM
import Derived.BigQuiet
namespace Go.Proofs.Ytgmddookohkhlaa
open Go.RowKit
set_option linter.unusedVariables false

theorem iff_no {P : Prop} (h : ¬ P) : false = true ↔ P := ⟨fun e => Bool.noConfusion e, fun p => absurd p h⟩
theorem iff_yes {P : Prop} (h : P) : true = true ↔ P := ⟨fun _ => h, fun _ => rfl⟩

theorem specIn_any (x lo hi : Int) (w : World) :
    Calls Try.prog 28 #[.int .i64 x, .int .i64 lo, .int .i64 hi] w fun e w' => e = .returned (.bool (decide (lo ≤ x ∧ x ≤ hi))) ∧ w = w' := by
  by_cases h1 : lo ≤ x
  · by_cases h2 : x ≤ hi
    · have hd : decide (lo ≤ x ∧ x ≤ hi) = true := by simp [h1, h2]
      rw [hd]
      go_enter Try.func28, Try.ntmps28
      go_wp2
      go_ret
      exact ⟨rfl, rfl⟩
    · have hd : decide (lo ≤ x ∧ x ≤ hi) = false := by simp; omega
      rw [hd]
      go_enter Try.func28, Try.ntmps28
      go_wp2
      go_ret
      exact ⟨rfl, rfl⟩
  · have hd : decide (lo ≤ x ∧ x ≤ hi) = false := by simp; omega
    rw [hd]
    go_enter Try.func28, Try.ntmps28
    go_wp2
    go_ret
    exact ⟨rfl, rfl⟩

/-- A letter that an atom may have at place i. -/
def ChOk (i : Nat) (x : Int) : Prop := (97 ≤ x ∧ x ≤ 122) ∨ (i ≠ 0 ∧ ((48 ≤ x ∧ x ≤ 57) ∨ x = 95))

/-- An atom. -/
def AtomP (s : ByteArray) : Prop := (∀ (i : Nat) (h : i < s.size), ChOk i (s[i].toNat : Int)) ∧ 1 ≤ s.size ∧ s.size ≤ 20

set_option maxHeartbeats 1000000 in
theorem specAtomOk_any (s : ByteArray) (w : World) (hs : s.size ≤ 9223372036854775807) :
    Calls Try.prog 52 #[.string s] w fun e w' => ∃ b : Bool, e = .returned (.bool b) ∧ (b = true ↔ AtomP s) ∧ w = w' := by
  go_enter Try.func52, Try.ntmps52
  go_wp2_with fail
  go_loop [3] (fun i => ∃ k : Nat, k ≤ s.size ∧ i = .int .i64 k ∧ Hid (∀ (j : Nat) (h : j < s.size), j < k → ChOk j (s[j].toNat : Int))) (fun i => s.size - (intOf i).toNat)
  case atStart => exact ⟨0, Nat.zero_le _, rfl, fun j _ hj => by omega⟩
  case round =>
    obtain ⟨k, hk, rfl, HD⟩ := hrel
    by_cases hlt : k < s.size
    · have hbyte : (s[k].toNat : Int) ≤ 255 := by have := s[k].toNat_lt; omega
      obtain ⟨x, hx⟩ : ∃ x, wrap64 (s[k].toNat : Int) = x := ⟨_, rfl⟩
      have HX : Hid ((s[k].toNat : Int) = x) := by rw [← hx]; exact (IntWalk.wrap64_in _ ⟨by omega, by omega⟩).symm
      clear hbyte
      have HN : Hid (ChOk k x → ∀ (j : Nat) (h : j < s.size), j < k + 1 → ChOk j (s[j].toNat : Int)) := fun hc j hj hjk => by
        by_cases h : j < k
        · exact HD.out j hj h
        · obtain rfl : j = k := by omega
          rw [HX.out]; exact hc
      have HF : Hid (¬ ChOk k x → ¬ AtomP s) := fun hc ha => hc (by rw [← HX.out]; exact ha.1 k hlt)
      go_wp2_with fail
      clear hx
      generalize Value.int IntKind.u8 (s[k].toNat : Int) = u
      by_cases hsm : 97 ≤ x ∧ x ≤ 122
      · have hL := specIn_any x 97 122 w
        rw [show decide (97 ≤ x ∧ x ≤ 122) = true from by simp [hsm]] at hL
        have HR := HN.out (.inl hsm)
        have HRR : Hid (∀ (j : Nat) (h : j < s.size), j < k + 1 → ChOk j (s[j].toNat : Int)) := HR
        clear HR HN HF HX HD hsm
        refine hL.mono ?_
        clear hL
        rintro e w' ⟨rfl, rfl⟩
        go_wp2_with fail
        go_round
        case rel => exact ⟨k + 1, by omega, by go_num, HRR⟩
        case measure => simp [intOf]; omega
      · have hL := specIn_any x 97 122 w
        rw [show decide (97 ≤ x ∧ x ≤ 122) = false from by simp; omega] at hL
        refine hL.mono ?_
        clear hL
        rintro e w' ⟨rfl, rfl⟩
        by_cases hk0 : k = 0
        · have hb0 : ((k : Int) == 0) = true := by simp [hk0]
          have HR : Hid (¬ AtomP s) := HF.out (fun h => by rcases h with h | h; exact hsm h; exact h.1 hk0)
          clear HF HN HX HD hsm hk0
          go_wp2_with fail
          go_ret
          exact ⟨false, rfl, by simp only [Bool.false_eq_true, false_iff]; exact HR.out, rfl⟩
        · have hb0 : ((k : Int) == 0) = false := by simp [hk0]
          by_cases hdg : 48 ≤ x ∧ x ≤ 57
          · have hL := specIn_any x 48 57 w
            rw [show decide (48 ≤ x ∧ x ≤ 57) = true from by simp [hdg]] at hL
            have HRR : Hid (∀ (j : Nat) (h : j < s.size), j < k + 1 → ChOk j (s[j].toNat : Int)) := HN.out (.inr ⟨hk0, .inl hdg⟩)
            clear HN HF HX HD hsm hdg hk0
            go_wp2_with fail
            refine hL.mono ?_
            clear hL
            rintro e w' ⟨rfl, rfl⟩
            go_wp2_with fail
            go_round
            case rel => exact ⟨k + 1, by omega, by go_num, HRR⟩
            case measure => simp [intOf]; omega
          · have hL := specIn_any x 48 57 w
            rw [show decide (48 ≤ x ∧ x ≤ 57) = false from by simp; omega] at hL
            by_cases hu : x = 95
            · have hub : (x != 95) = false := by simp [hu]
              have HRR : Hid (∀ (j : Nat) (h : j < s.size), j < k + 1 → ChOk j (s[j].toNat : Int)) := HN.out (.inr ⟨hk0, .inr hu⟩)
              clear HN HF HX HD hsm hdg hk0 hu
              go_wp2_with fail
              refine hL.mono ?_
              clear hL
              rintro e w' ⟨rfl, rfl⟩
              go_wp2_with fail
              go_round
              case rel => exact ⟨k + 1, by omega, by go_num, HRR⟩
              case measure => simp [intOf]; omega
            · have hub : (x != 95) = true := by simp [hu]
              have HR : Hid (¬ AtomP s) := HF.out (fun h => by rcases h with h | ⟨_, h | h⟩; exact hsm h; exact hdg h; exact hu h)
              clear HF HN HX HD hsm hdg hk0 hu
              go_wp2_with fail
              refine hL.mono ?_
              clear hL
              rintro e w' ⟨rfl, rfl⟩
              go_wp2_with fail
              go_ret
              exact ⟨false, rfl, by simp only [Bool.false_eq_true, false_iff]; exact HR.out, rfl⟩
    · have hL := specIn_any s.size 1 20 w
      go_wp2_with fail
      refine hL.mono ?_
      clear hL
      rintro e w' ⟨rfl, rfl⟩
      have HF : Hid ((decide (1 ≤ (s.size : Int)) && decide ((s.size : Int) ≤ 20)) = true ↔ AtomP s) := by
        show _ ↔ _
        rw [Bool.and_eq_true, decide_eq_true_iff, decide_eq_true_iff]
        exact ⟨fun h => ⟨fun j hj => HD.out j hj (by omega), by omega, by omega⟩, fun h => ⟨by have := h.2.1; omega, by have := h.2.2; omega⟩⟩
      go_wp2
      go_ret
      exact ⟨_, rfl, HF.out, rfl⟩

/-- A term that is right, all but what is in it. -/
def Shape (k n : Int) (s : ByteArray) (len : Nat) : Prop :=
  (k = 1 ∧ (-1000000000000 ≤ n ∧ n ≤ 1000000000000) ∧ s.size = 0 ∧ len = 0) ∨ (k = 2 ∧ AtomP s ∧ n = 0 ∧ len = 0) ∨ (k = 3 ∧ (0 ≤ n ∧ n ≤ 1000000) ∧ s.size = 0 ∧ len = 0) ∨ (k = 4 ∧ n = 0 ∧ s.size = 0 ∧ len ≤ 20) ∨ (k = 5 ∧ n = 0 ∧ s.size = 0 ∧ len ≤ 60)

theorem shape1 (n : Int) (s : ByteArray) (len : Nat) : Shape 1 n s len ↔ (-1000000000000 ≤ n ∧ n ≤ 1000000000000) ∧ s.size = 0 ∧ len = 0 := by simp [Shape]
theorem shape2 (n : Int) (s : ByteArray) (len : Nat) : Shape 2 n s len ↔ AtomP s ∧ n = 0 ∧ len = 0 := by simp [Shape]
theorem shape3 (n : Int) (s : ByteArray) (len : Nat) : Shape 3 n s len ↔ (0 ≤ n ∧ n ≤ 1000000) ∧ s.size = 0 ∧ len = 0 := by simp [Shape]
theorem shape4 (n : Int) (s : ByteArray) (len : Nat) : Shape 4 n s len ↔ n = 0 ∧ s.size = 0 ∧ len ≤ 20 := by simp [Shape]
theorem shape5 (n : Int) (s : ByteArray) (len : Nat) : Shape 5 n s len ↔ n = 0 ∧ s.size = 0 ∧ len ≤ 60 := by simp [Shape]

theorem empty_iff (s : ByteArray) : s.toList.isEmpty = true ↔ s.size = 0 := by
  rw [ByteArray.toList_eq, List.isEmpty_iff, Array.toList_eq_nil_iff]
  exact ⟨fun h => by show s.data.size = 0; rw [h]; rfl, fun h => Array.eq_empty_of_size_eq_zero h⟩
theorem empty_no {s : ByteArray} (h : ¬ s.size = 0) : s.toList.isEmpty = false := by
  cases h' : s.toList.isEmpty with
  | false => rfl
  | true => exact absurd ((empty_iff s).1 h') h

/-- The contract of the check of a shape. -/
def ShapeC (f : Nat) : Prop := ∀ (k n : Int) (s : ByteArray) (a : Option Addr) (len c : Nat) (w : World), s.size ≤ 9223372036854775807 → len ≤ 9223372036854775807 →
  Calls Try.prog f #[.agg #[.int .i64 k, .int .i64 n, .string s, .slice a len c]] w fun e w' => ∃ b : Bool, e = .returned (.bool b) ∧ (b = true ↔ Shape k n s len) ∧ Below w.heap.size w w'

set_option maxHeartbeats 2000000 in
theorem specShape_any : ShapeC 91 := by
  intro k n s a len c w hs hlen
  have hA : Below w.heap.size w (w.alloc (.cells #[.int .i64 k, .int .i64 n, .string s, .slice a len c] 53)) := (Below.refl _ _).alloc (Nat.le_refl _) _
  by_cases h1 : k = 1
  · subst h1
    rw [shape1]
    have hL := specIn_any n (-1000000000000) 1000000000000 (w.alloc (.cells #[.int .i64 1, .int .i64 n, .string s, .slice a len c] 53))
    by_cases hn : -1000000000000 ≤ n ∧ n ≤ 1000000000000
    · rw [show decide (-1000000000000 ≤ n ∧ n ≤ 1000000000000) = true from by simp [hn]] at hL
      by_cases hse : s.size = 0
      · have he := (empty_iff s).2 hse
        by_cases hl0 : len = 0
        · have hlb : ((len : Int) == 0) = true := by simp [hl0]
          have HF : Hid ((-1000000000000 ≤ n ∧ n ≤ 1000000000000) ∧ s.size = 0 ∧ len = 0) := ⟨hn, hse, hl0⟩
          clear hn hse hl0
          go_enter Try.func91, Try.ntmps91
          go_wp2_with fail
          refine hL.mono ?_
          clear hL
          rintro e w' ⟨rfl, rfl⟩
          go_wp2_with fail
          go_ret
          exact ⟨true, rfl, iff_yes HF.out, hA⟩
        · have hlb : ((len : Int) == 0) = false := by simp [hl0]
          have HF : Hid (¬ ((-1000000000000 ≤ n ∧ n ≤ 1000000000000) ∧ s.size = 0 ∧ len = 0)) := fun h => hl0 h.2.2
          clear hn hse hl0
          go_enter Try.func91, Try.ntmps91
          go_wp2_with fail
          refine hL.mono ?_
          clear hL
          rintro e w' ⟨rfl, rfl⟩
          go_wp2_with fail
          go_ret
          exact ⟨false, rfl, iff_no HF.out, hA⟩
      · have he := empty_no hse
        have HF : Hid (¬ ((-1000000000000 ≤ n ∧ n ≤ 1000000000000) ∧ s.size = 0 ∧ len = 0)) := fun h => hse h.2.1
        clear hn hse
        go_enter Try.func91, Try.ntmps91
        go_wp2_with fail
        refine hL.mono ?_
        clear hL
        rintro e w' ⟨rfl, rfl⟩
        go_wp2_with fail
        go_ret
        exact ⟨false, rfl, iff_no HF.out, hA⟩
    · rw [show decide (-1000000000000 ≤ n ∧ n ≤ 1000000000000) = false from by simp; omega] at hL
      have HF : Hid (¬ ((-1000000000000 ≤ n ∧ n ≤ 1000000000000) ∧ s.size = 0 ∧ len = 0)) := fun h => hn h.1
      clear hn
      go_enter Try.func91, Try.ntmps91
      go_wp2_with fail
      refine hL.mono ?_
      clear hL
      rintro e w' ⟨rfl, rfl⟩
      go_wp2_with fail
      go_ret
      exact ⟨false, rfl, iff_no HF.out, hA⟩
  by_cases h2 : k = 2
  · subst h2
    rw [shape2]
    have hL := specAtomOk_any s (w.alloc (.cells #[.int .i64 2, .int .i64 n, .string s, .slice a len c] 53)) hs
    go_enter Try.func91, Try.ntmps91
    go_wp2_with fail
    refine hL.mono ?_
    clear hL
    rintro e w' ⟨b, rfl, hb, rfl⟩
    cases b
    · have HF : Hid (¬ (AtomP s ∧ n = 0 ∧ len = 0)) := fun h => by have := hb.2 h.1; cases this
      clear hb
      go_wp2_with fail
      go_ret
      exact ⟨false, rfl, iff_no HF.out, hA⟩
    · have HA : Hid (AtomP s) := hb.1 rfl
      clear hb
      by_cases hn : n = 0
      · have hnb : (n == 0) = true := by simp [hn]
        by_cases hl0 : len = 0
        · have hlb : ((len : Int) == 0) = true := by simp [hl0]
          have HF : Hid (AtomP s ∧ n = 0 ∧ len = 0) := ⟨HA.out, hn, hl0⟩
          clear hn hl0
          go_wp2_with fail
          go_ret
          exact ⟨true, rfl, iff_yes HF.out, hA⟩
        · have hlb : ((len : Int) == 0) = false := by simp [hl0]
          have HF : Hid (¬ (AtomP s ∧ n = 0 ∧ len = 0)) := fun h => hl0 h.2.2
          clear hn hl0
          go_wp2_with fail
          go_ret
          exact ⟨false, rfl, iff_no HF.out, hA⟩
      · have hnb : (n == 0) = false := by simp [hn]
        have HF : Hid (¬ (AtomP s ∧ n = 0 ∧ len = 0)) := fun h => hn h.2.1
        clear hn
        go_wp2_with fail
        go_ret
        exact ⟨false, rfl, iff_no HF.out, hA⟩
  by_cases h3 : k = 3
  · subst h3
    rw [shape3]
    have hL := specIn_any n (0) 1000000 (w.alloc (.cells #[.int .i64 3, .int .i64 n, .string s, .slice a len c] 53))
    by_cases hn : 0 ≤ n ∧ n ≤ 1000000
    · rw [show decide (0 ≤ n ∧ n ≤ 1000000) = true from by simp [hn]] at hL
      by_cases hse : s.size = 0
      · have he := (empty_iff s).2 hse
        by_cases hl0 : len = 0
        · have hlb : ((len : Int) == 0) = true := by simp [hl0]
          have HF : Hid ((0 ≤ n ∧ n ≤ 1000000) ∧ s.size = 0 ∧ len = 0) := ⟨hn, hse, hl0⟩
          clear hn hse hl0
          go_enter Try.func91, Try.ntmps91
          go_wp2_with fail
          refine hL.mono ?_
          clear hL
          rintro e w' ⟨rfl, rfl⟩
          go_wp2_with fail
          go_ret
          exact ⟨true, rfl, iff_yes HF.out, hA⟩
        · have hlb : ((len : Int) == 0) = false := by simp [hl0]
          have HF : Hid (¬ ((0 ≤ n ∧ n ≤ 1000000) ∧ s.size = 0 ∧ len = 0)) := fun h => hl0 h.2.2
          clear hn hse hl0
          go_enter Try.func91, Try.ntmps91
          go_wp2_with fail
          refine hL.mono ?_
          clear hL
          rintro e w' ⟨rfl, rfl⟩
          go_wp2_with fail
          go_ret
          exact ⟨false, rfl, iff_no HF.out, hA⟩
      · have he := empty_no hse
        have HF : Hid (¬ ((0 ≤ n ∧ n ≤ 1000000) ∧ s.size = 0 ∧ len = 0)) := fun h => hse h.2.1
        clear hn hse
        go_enter Try.func91, Try.ntmps91
        go_wp2_with fail
        refine hL.mono ?_
        clear hL
        rintro e w' ⟨rfl, rfl⟩
        go_wp2_with fail
        go_ret
        exact ⟨false, rfl, iff_no HF.out, hA⟩
    · rw [show decide (0 ≤ n ∧ n ≤ 1000000) = false from by simp; omega] at hL
      have HF : Hid (¬ ((0 ≤ n ∧ n ≤ 1000000) ∧ s.size = 0 ∧ len = 0)) := fun h => hn h.1
      clear hn
      go_enter Try.func91, Try.ntmps91
      go_wp2_with fail
      refine hL.mono ?_
      clear hL
      rintro e w' ⟨rfl, rfl⟩
      go_wp2_with fail
      go_ret
      exact ⟨false, rfl, iff_no HF.out, hA⟩
  by_cases h4 : k = 4
  · subst h4
    rw [shape4]
    by_cases hn : n = 0
    · have hnb : (n == 0) = true := by simp [hn]
      by_cases hse : s.size = 0
      · have he := (empty_iff s).2 hse
        by_cases hl0 : len ≤ 20
        · have HF : Hid (n = 0 ∧ s.size = 0 ∧ len ≤ 20) := ⟨hn, hse, hl0⟩
          have hlb : decide ((len : Int) ≤ 20) = true := by simp; omega
          clear hn hse hl0
          go_enter Try.func91, Try.ntmps91
          go_wp2_with fail
          go_ret
          exact ⟨true, rfl, iff_yes HF.out, hA⟩
        · have HF : Hid (¬ (n = 0 ∧ s.size = 0 ∧ len ≤ 20)) := fun h => hl0 h.2.2
          have hlb : decide ((len : Int) ≤ 20) = false := by simp; omega
          clear hn hse hl0
          go_enter Try.func91, Try.ntmps91
          go_wp2_with fail
          go_ret
          exact ⟨false, rfl, iff_no HF.out, hA⟩
      · have he := empty_no hse
        have HF : Hid (¬ (n = 0 ∧ s.size = 0 ∧ len ≤ 20)) := fun h => hse h.2.1
        clear hn hse
        go_enter Try.func91, Try.ntmps91
        go_wp2_with fail
        go_ret
        exact ⟨false, rfl, iff_no HF.out, hA⟩
    · have hnb : (n == 0) = false := by simp [hn]
      have HF : Hid (¬ (n = 0 ∧ s.size = 0 ∧ len ≤ 20)) := fun h => hn h.1
      clear hn
      go_enter Try.func91, Try.ntmps91
      go_wp2_with fail
      go_ret
      exact ⟨false, rfl, iff_no HF.out, hA⟩
  by_cases h5 : k = 5
  · subst h5
    rw [shape5]
    by_cases hn : n = 0
    · have hnb : (n == 0) = true := by simp [hn]
      by_cases hse : s.size = 0
      · have he := (empty_iff s).2 hse
        by_cases hl0 : len ≤ 60
        · have HF : Hid (n = 0 ∧ s.size = 0 ∧ len ≤ 60) := ⟨hn, hse, hl0⟩
          have hlb : decide ((len : Int) ≤ 60) = true := by simp; omega
          clear hn hse hl0
          go_enter Try.func91, Try.ntmps91
          go_wp2_with fail
          go_ret
          exact ⟨true, rfl, iff_yes HF.out, hA⟩
        · have HF : Hid (¬ (n = 0 ∧ s.size = 0 ∧ len ≤ 60)) := fun h => hl0 h.2.2
          have hlb : decide ((len : Int) ≤ 60) = false := by simp; omega
          clear hn hse hl0
          go_enter Try.func91, Try.ntmps91
          go_wp2_with fail
          go_ret
          exact ⟨false, rfl, iff_no HF.out, hA⟩
      · have he := empty_no hse
        have HF : Hid (¬ (n = 0 ∧ s.size = 0 ∧ len ≤ 60)) := fun h => hse h.2.1
        clear hn hse
        go_enter Try.func91, Try.ntmps91
        go_wp2_with fail
        go_ret
        exact ⟨false, rfl, iff_no HF.out, hA⟩
    · have hnb : (n == 0) = false := by simp [hn]
      have HF : Hid (¬ (n = 0 ∧ s.size = 0 ∧ len ≤ 60)) := fun h => hn h.1
      clear hn
      go_enter Try.func91, Try.ntmps91
      go_wp2_with fail
      go_ret
      exact ⟨false, rfl, iff_no HF.out, hA⟩
  have HF : Hid (¬ Shape k n s len) := fun h => by rcases h with h | h | h | h | h; exact h1 h.1; exact h2 h.1; exact h3 h.1; exact h4 h.1; exact h5 h.1
  have e1 : (k == 1) = false := by simp [h1]
  have e2 : (k == 2) = false := by simp [h2]
  have e3 : (k == 3) = false := by simp [h3]
  have e4 : (k == 4) = false := by simp [h4]
  have e5 : (k == 5) = false := by simp [h5]
  clear h1 h2 h3 h4 h5
  go_enter Try.func91, Try.ntmps91
  go_wp2_with fail
  go_ret
  exact ⟨false, rfl, iff_no HF.out, hA⟩

end Go.Proofs.Ytgmddookohkhlaa

/- When a term is right in all its storeys, and that the model's walk over it tells it. -/
namespace Go.Proofs.Ytgmddookohkhlaa
open Go.RowKit
set_option linter.unusedVariables false

/-- All terms of a list have their shapes, all storeys. -/
def OkL : (d : Nat) → List (Tm d) → Prop
  | 0, _ => True
  | d + 1, ts => ∀ t ∈ ts, Shape t.K t.N t.S t.L.length ∧ OkL d t.L

/-- A term that is right, no deeper than told, of no more than are left. -/
def Right (d : Nat) (k n : Int) (s : ByteArray) (ts : List (Tm d)) (deep left : Int) : Prop :=
  Shape k n s ts.length ∧ OkL d ts ∧ ((1 + depL d ts : Nat) : Int) ≤ deep ∧ ((1 + cntL d ts : Nat) : Int) ≤ left

theorem depL_le {d : Nat} {ts : List (Tm (d + 1))} {m : Nat} : depL (d + 1) ts ≤ m ↔ ∀ t ∈ ts, 1 + depL d t.L ≤ m := by
  constructor
  · intro h t ht
    have := (foldl_max_ge (ts.map fun t => 1 + depL d t.L) 0).2 _ (List.mem_map.2 ⟨t, ht, rfl⟩)
    exact Nat.le_trans this h
  · intro h
    refine foldl_max_le _ 0 m (Nat.zero_le _) fun x hx => ?_
    obtain ⟨t, ht, rfl⟩ := List.mem_map.1 hx
    exact h t ht

/-- The contract of a walk that tells how many may be left. -/
def LookC (f d : Nat) : Prop := ∀ (k n : Int) (s : ByteArray) (l : Value) (ts : List (Tm d)) (deep left : Int) (w : World), RdL d w l ts → WfL d ts → s.size ≤ 9223372036854775807 → -1000 ≤ deep → deep ≤ 1000 → -1000 ≤ left → left ≤ 1000000 →
  Calls Try.prog f #[.agg #[.int .i64 k, .int .i64 n, .string s, l], .int .i64 deep, .int .i64 left] w fun e w' => ∃ r : Int, e = .returned (.int .i64 r) ∧ ((Right d k n s ts deep left ∧ r = left - (1 + cntL d ts : Nat)) ∨ (¬ Right d k n s ts deep left ∧ r = -1)) ∧ Below w.heap.size w w'

set_option maxHeartbeats 1000000 in
/-- What is refused at once. -/
theorem specLook_no (k n : Int) (s : ByteArray) (a : Option Addr) (len c : Nat) (deep left : Int) (w : World) (hs : s.size ≤ 9223372036854775807) (hl : len ≤ 9223372036854775807)
    (h : deep < 1 ∨ left < 1 ∨ ¬ Shape k n s len) :
    Calls Try.prog 77 #[.agg #[.int .i64 k, .int .i64 n, .string s, .slice a len c], .int .i64 deep, .int .i64 left] w fun e w' => e = .returned (.int .i64 (-1)) ∧ Below w.heap.size w w' := by
  obtain ⟨W, hW⟩ : ∃ W, W = w.alloc (.cells #[.int .i64 k, .int .i64 n, .string s, .slice a len c] 53) := ⟨_, rfl⟩
  have hA : Below w.heap.size w W := by rw [hW]; exact (Below.refl _ _).alloc (Nat.le_refl _) _
  by_cases h1 : deep < 1
  · rw [hW] at hA
    clear hW
    go_enter Try.func77, Try.ntmps77
    go_wp2_with fail
    go_ret
    exact ⟨rfl, hA⟩
  · by_cases h2 : left < 1
    · rw [hW] at hA
      clear hW
      go_enter Try.func77, Try.ntmps77
      go_wp2_with fail
      go_ret
      exact ⟨rfl, hA⟩
    · have h3 : Hid (¬ Shape k n s len) := by rcases h with h | h | h; exact absurd h h1; exact absurd h h2; exact h
      have hC := specShape_any k n s a len c W hs hl
      rw [hW] at hC
      have HW : Hid (W = _) := hW
      clear h hW
      go_enter Try.func77, Try.ntmps77
      go_wp2_with fail
      refine hC.mono ?_
      clear hC
      rintro e w1 ⟨b, rfl, hb, hB⟩
      rw [← HW.out] at hB
      have hb2 : Below w.heap.size w w1 := hA.trans (hB.mono hA.size)
      have : b = false := by cases b; rfl; exact absurd (hb.1 rfl) h3.out
      subst this
      clear hb hB hA HW h3
      go_wp2_with fail
      go_ret
      exact ⟨rfl, hb2⟩

theorem right_zero {k n : Int} {s : ByteArray} {ts : List (Tm 0)} {deep left : Int} (h1 : ¬ deep < 1) (h2 : ¬ left < 1) (h3 : Shape k n s ts.length) : Right 0 k n s ts deep left :=
  ⟨h3, trivial, by show ((1 + 0 : Nat) : Int) ≤ deep; omega, by show ((1 + 0 : Nat) : Int) ≤ left; omega⟩

/-- The first j terms of a list are right. -/
def RightP (d : Nat) (ts : List (Tm (d + 1))) (deep left : Int) (j : Nat) : Prop :=
  (∀ i t, i < j → ts[i]? = some t → Shape t.K t.N t.S t.L.length ∧ OkL d t.L ∧ ((1 + depL d t.L : Nat) : Int) ≤ deep - 1) ∧ ((1 + cntP d ts j : Nat) : Int) ≤ left

theorem rightP_all {d : Nat} {k n : Int} {s : ByteArray} {ts : List (Tm (d + 1))} {deep left : Int} {j : Nat} (hd : ¬ deep < 1) (h3 : Shape k n s ts.length) (hj : ts.length ≤ j) (h : RightP d ts deep left j) : Right (d + 1) k n s ts deep left := by
  refine ⟨h3, fun t ht => ?_, ?_, by have := h.2; rw [cntP_all d ts j hj] at this; exact this⟩
  · obtain ⟨i, hi, e⟩ := List.getElem_of_mem ht
    have := h.1 i t (by omega) (by rw [List.getElem?_eq_getElem hi, e])
    exact ⟨this.1, this.2.1⟩
  · have : depL (d + 1) ts ≤ (deep - 1).toNat := depL_le.2 fun t ht => by
      obtain ⟨i, hi, e⟩ := List.getElem_of_mem ht
      have := (h.1 i t (by omega) (by rw [List.getElem?_eq_getElem hi, e])).2.2
      omega
    omega

theorem right_elem {d : Nat} {k n : Int} {s : ByteArray} {ts : List (Tm (d + 1))} {deep left : Int} {j : Nat} {t : Tm (d + 1)} (ht : ts[j]? = some t) (h : Right (d + 1) k n s ts deep left) : Right d t.K t.N t.S t.L (deep - 1) (left - 1 - cntP d ts j) := by
  have hm := List.mem_of_getElem? ht
  obtain ⟨_, h2, h3, h4⟩ := h
  have h5 := h2 t hm
  have h6 : 1 + depL d t.L ≤ depL (d + 1) ts := (depL_le (m := depL (d + 1) ts)).1 (Nat.le_refl _) t hm
  have h7 := cntP_succ d ts j t ht
  have h8 := cntP_le d ts (j + 1)
  exact ⟨h5.1, h5.2, by omega, by omega⟩

theorem rightP_step {d : Nat} {ts : List (Tm (d + 1))} {deep left : Int} {j : Nat} {t : Tm (d + 1)} (ht : ts[j]? = some t) (h : RightP d ts deep left j) (hr : Right d t.K t.N t.S t.L (deep - 1) (left - 1 - cntP d ts j)) : RightP d ts deep left (j + 1) := by
  have h7 := cntP_succ d ts j t ht
  obtain ⟨r1, r2, r3, r4⟩ := hr
  refine ⟨fun i u hi hu => ?_, by omega⟩
  by_cases hij : i < j
  · exact h.1 i u hij hu
  · obtain rfl : i = j := by omega
    rw [ht] at hu
    obtain rfl := Option.some.inj hu
    exact ⟨r1, r2, r3⟩

set_option maxHeartbeats 2000000 in
theorem specLook_any : ∀ d, LookC 77 d := by
  intro d
  induction d with
  | zero =>
    intro k n s l ts deep left w hr hw hs hd0 hd1 hl0 hl1
    obtain ⟨a, c, rfl⟩ := hr.len
    have hln := hw.len
    by_cases h : deep < 1 ∨ left < 1 ∨ ¬ Shape k n s ts.length
    · refine (specLook_no k n s a _ c deep left w hs hln h).mono ?_
      rintro e w' ⟨rfl, hb⟩
      refine ⟨-1, rfl, .inr ⟨fun hR => ?_, rfl⟩, hb⟩
      obtain ⟨r1, _, r3, r4⟩ := hR
      rcases h with h | h | h
      · omega
      · omega
      · exact h r1
    · have h1 : ¬ deep < 1 := fun e => h (.inl e)
      have h2 : ¬ left < 1 := fun e => h (.inr (.inl e))
      have h3 : Shape k n s ts.length := Classical.byContradiction fun e => h (.inr (.inr e))
      have HR : Hid (Right 0 k n s ts deep left) := right_zero h1 h2 h3
      have hz : ts.length = 0 := by
        cases ts with
        | nil => rfl
        | cons t _ => exact Empty.elim t
      have H3 : Hid (Shape k n s 0) := by rw [← hz]; exact h3
      rw [hz]
      obtain ⟨W, hW⟩ : ∃ W, W = w.alloc (.cells #[.int .i64 k, .int .i64 n, .string s, .slice a 0 c] 53) := ⟨_, rfl⟩
      have hA : Below w.heap.size w W := by rw [hW]; exact (Below.refl _ _).alloc (Nat.le_refl _) _
      have hWz : W.heap.size = w.heap.size + 1 := by rw [hW]; simp
      have hB1 : W.heap[w.heap.size]? = some (.cells #[.int .i64 k, .int .i64 n, .string s, .slice a 0 c] 53 (0, 0)) := by rw [hW]; exact heap_alloc_new w _
      have hC := specShape_any k n s a 0 c W hs (by omega)
      rw [hW] at hC
      have HW : Hid (W = _) := hW
      clear h hW h3
      go_enter Try.func77, Try.ntmps77
      go_wp2_with fail
      refine hC.mono ?_
      clear hC
      rintro e w1 ⟨b, rfl, hb, hB⟩
      rw [← HW.out] at hB
      have hb2 : Below w.heap.size w w1 := hA.trans (hB.mono hA.size)
      have : b = true := hb.2 H3.out
      subst this
      have c1 : w1.cell? ⟨w.heap.size, 3, none⟩ = some (.slice a 0 c) := by rw [cell_of_row w1 _ 3 _ _ _ ((hB.block _ (by omega)).trans hB1)]; rfl
      clear hb hB hA HW hB1
      go_wp2_with fail
      refine wp_loop_rounds 1 ?_
      rw [rounds_succ]
      go_wp2
      go_ret
      exact ⟨_, rfl, .inl ⟨HR.out, rfl⟩, hb2⟩
  | succ d ih =>
    intro k n s l ts deep left w hr hw hs hd0 hd1 hl0 hl1
    obtain ⟨a, c, rfl, hel⟩ := hr
    have hln := hw.len
    by_cases h : deep < 1 ∨ left < 1 ∨ ¬ Shape k n s ts.length
    · refine (specLook_no k n s a _ c deep left w hs hln h).mono ?_
      rintro e w' ⟨rfl, hb⟩
      refine ⟨-1, rfl, .inr ⟨fun hR => ?_, rfl⟩, hb⟩
      obtain ⟨r1, _, r3, r4⟩ := hR
      rcases h with h | h | h
      · omega
      · omega
      · exact h r1
    · have h1 : ¬ deep < 1 := fun e => h (.inl e)
      have h2 : ¬ left < 1 := fun e => h (.inr (.inl e))
      have H3 : Hid (Shape k n s ts.length) := Classical.byContradiction fun e => h (.inr (.inr e))
      have HE : Hid (∀ (i : Nat) (t : Tm (d + 1)), ts[i]? = some t → ∃ b o lv, a = some ⟨b, o, none⟩ ∧ Four w b (o + i * 4) t.K t.N t.S lv ∧ RdL d w lv t.L) := hel
      have HWF : Hid (WfL (d + 1) ts) := hw
      obtain ⟨len, hl⟩ : ∃ len, ts.length = len := ⟨_, rfl⟩
      have HL : Hid (ts.length = len) := hl
      rw [hl] at hln ⊢
      obtain ⟨W, hW⟩ : ∃ W, W = w.alloc (.cells #[.int .i64 k, .int .i64 n, .string s, .slice a len c] 53) := ⟨_, rfl⟩
      have hA : Below w.heap.size w W := by rw [hW]; exact (Below.refl _ _).alloc (Nat.le_refl _) _
      have hWz : W.heap.size = w.heap.size + 1 := by rw [hW]; simp
      have hB1 : W.heap[w.heap.size]? = some (.cells #[.int .i64 k, .int .i64 n, .string s, .slice a len c] 53 (0, 0)) := by rw [hW]; exact heap_alloc_new w _
      have hC := specShape_any k n s a len c W hs hln
      rw [hW] at hC
      have HW : Hid (W = _) := hW
      have HI : Hid (LookC 77 d) := ih
      clear h hW ih hel hw hl
      go_enter Try.func77, Try.ntmps77
      go_wp2_with fail
      refine hC.mono ?_
      clear hC
      rintro e w1 ⟨b, rfl, hb, hB⟩
      rw [← HW.out] at hB
      have : b = true := hb.2 (by rw [← HL.out]; exact H3.out)
      subst this
      have HB1 : Hid (w1.heap[w.heap.size]? = _) := (hB.block _ (by omega)).trans hB1
      have hbw1 : Below w.heap.size w w1 := hA.trans (hB.mono hA.size)
      have hwz : w.heap.size < w1.heap.size := by have := hB.size; omega
      clear hb hB hA HW hB1 hWz
      go_wp2_with fail
      go_loopw [2, 7] (fun x i wr => ∃ (j : Nat) (y : Int), j ≤ len ∧ i = .int .i64 j ∧ x = .int .i64 y ∧ Below w1.heap.size w1 wr ∧ Hid ((RightP d ts deep left j ∧ y = left - 1 - cntP d ts j) ∨ (¬ Right (d + 1) k n s ts deep left ∧ y = -1))) (fun _ i _ => len - (intOf i).toNat)
      case atStart => exact ⟨0, _, Nat.zero_le _, rfl, rfl, Below.refl _ _, .inl ⟨⟨fun i t hi => by omega, by show ((1 + 0 : Nat) : Int) ≤ left; omega⟩, by show left - 1 = left - 1 - ((0 : Nat) : Int); omega⟩⟩
      case round =>
        obtain ⟨j, y, hj, rfl, rfl, hb, HS⟩ := hrel
        have c1 : wr.cell? ⟨w.heap.size, 3, none⟩ = some (.slice a len c) := by rw [cell_of_row wr _ 3 _ _ _ ((hb.block _ hwz).trans HB1.out)]; rfl
        have hbw : Below w.heap.size w wr := hbw1.trans (hb.mono hbw1.size)
        rcases HS.out with ⟨hP, hy⟩ | ⟨hN, hy⟩
        · have hy0 : 0 ≤ y := by have := hP.2; omega
          have hy1 : y ≤ 1000000 := by omega
          by_cases hjl : j < len
          · obtain ⟨t, ht⟩ : ∃ t, ts[j]? = some t := ⟨_, List.getElem?_eq_getElem (by rw [HL.out]; exact hjl)⟩
            obtain ⟨b1, o1, lv1, rfl, F1, L1⟩ := HE.out j t ht
            obtain ⟨_, _, hst, hwt⟩ := HWF.out.2 t (List.mem_of_getElem? ht)
            obtain ⟨f0, f1, f2, f3⟩ := F1.later hbw
            have hC := HI.out t.K t.N t.S lv1 t.L (deep - 1) y wr (L1.later hbw) hwt hst (by omega) (by omega) (by omega) (by omega)
            have HNX : Hid (∀ r : Int, ((Right d t.K t.N t.S t.L (deep - 1) y ∧ r = y - (1 + cntL d t.L : Nat)) ∨ (¬ Right d t.K t.N t.S t.L (deep - 1) y ∧ r = -1)) → (RightP d ts deep left (j + 1) ∧ r = left - 1 - cntP d ts (j + 1)) ∨ (¬ Right (d + 1) k n s ts deep left ∧ r = -1)) := fun r hr => by
              have hstep := cntP_succ d ts j t ht
              rcases hr with ⟨r1, r2⟩ | ⟨r1, r2⟩
              · rw [hy] at r1
                exact .inl ⟨rightP_step ht hP r1, by omega⟩
              · exact .inr ⟨fun hR => r1 (by rw [hy]; exact right_elem ht hR), r2⟩
            have hjl' : (j : Int) < (len : Int) := by omega
            clear F1 L1 hwt hst ht hP hy HS
            go_wp2_with fail
            refine hC.mono ?_
            clear hC
            rintro e V ⟨r, rfl, hr, hB⟩
            have HR2 : Hid _ := HNX.out r hr
            have hb2 : Below w1.heap.size w1 V := hb.trans (hB.mono hb.size)
            clear hb hB f0 f1 f2 f3 c1 hr HNX
            go_wp2
            go_roundw
            case rel => exact ⟨j + 1, r, by omega, by go_num, rfl, hb2, HR2⟩
            case measure => simp [intOf]; omega
          · have HR : Hid (Right (d + 1) k n s ts deep left) := rightP_all (by omega) H3.out (by have := HL.out; omega) hP
            have HY : Hid (y = left - (1 + cntL (d + 1) ts : Nat)) := by have := cntP_all d ts j (by have := HL.out; omega); show _ = _; omega
            clear hb hP hy HS
            go_wp2
            go_ret
            exact ⟨y, rfl, .inl ⟨HR.out, HY.out⟩, hbw⟩
        · have HR : Hid (¬ Right (d + 1) k n s ts deep left) := hN
          subst hy
          clear hb hN HS
          by_cases hjl : j < len
          · have hjl' : (j : Int) < (len : Int) := by omega
            go_wp2
            go_ret
            exact ⟨-1, rfl, .inr ⟨HR.out, rfl⟩, hbw⟩
          · go_wp2
            go_ret
            exact ⟨-1, rfl, .inr ⟨HR.out, rfl⟩, hbw⟩

set_option maxHeartbeats 400000 in
/-- The model's check of a term: right, at most 8 deep, at most 300 in all. -/
theorem specTermOk_any (d : Nat) (k n : Int) (s : ByteArray) (l : Value) (ts : List (Tm d)) (w : World) (hr : RdL d w l ts) (hw : WfL d ts) (hs : s.size ≤ 9223372036854775807) :
    Calls Try.prog 54 #[.agg #[.int .i64 k, .int .i64 n, .string s, l]] w fun e w' => ∃ b : Bool, e = .returned (.bool b) ∧ (b = true ↔ Right d k n s ts 8 300) ∧ Below w.heap.size w w' := by
  have hA : Below w.heap.size w (w.alloc (.cells #[.int .i64 k, .int .i64 n, .string s, l] 53)) := (Below.refl _ _).alloc (Nat.le_refl _) _
  obtain ⟨a, c, e⟩ := hr.len
  have hC := specLook_any d k n s l ts 8 300 _ (hr.later hA) hw hs (by omega) (by omega) (by omega) (by omega)
  rw [e] at hC hA ⊢
  clear hr
  go_enter Try.func54, Try.ntmps54
  go_wp2_with fail
  refine hC.mono ?_
  clear hC
  rintro e w1 ⟨r, rfl, hr, hB⟩
  have hb2 : Below w.heap.size w w1 := hA.trans (hB.mono (by simp))
  clear hA hB
  rcases hr with ⟨r1, r2⟩ | ⟨r1, r2⟩
  · have h0 : 0 ≤ r := by have := r1.2.2.2; omega
    have HR : Hid (Right d k n s ts 8 300) := r1
    clear r1 r2
    go_wp2
    go_ret
    exact ⟨_, rfl, by simp [HR.out], hb2⟩
  · have HR : Hid (¬ Right d k n s ts 8 300) := r1
    subst r2
    clear r1
    go_wp2
    go_ret
    exact ⟨_, rfl, by simp [HR.out], hb2⟩

end Go.Proofs.Ytgmddookohkhlaa

/- A region that draws its order, whose operations only read and whose callees leave what was there: one walk. -/
namespace Go.Proofs.Ytgmddookohkhlaa
open Go.RowKit

/-- A world behind this one. -/
structure After (w : World) where
  now : World
  bel : Below w.heap.size w now

theorem After.some (w : World) : Nonempty (After w) := ⟨⟨w, Below.refl _ _⟩⟩

theorem wp_region_after {P : Program} {id : Nat} {Q : Exit → Act → World → Prop} {a : Act} {w : World} {l : List Oper} (hm : P.follows .mixedOrders = true) (hB : Region.lexB .any l.toArray = true)
    (h : wpQuiet P l.toArray (fun w' => ∃ n : After w, w' = n.now) (fun a' => ∀ w', (∃ n : After w, w' = n.now) → Q .normal a' w') l a) : (Code.region id l.toArray true).wp P Q a w :=
  wp_region_quiet (C := fun w' => ∃ n : After w, w' = n.now) hm hB ⟨⟨_, (Below.refl _ _).drew⟩, rfl⟩ (by simpa using h)

theorem calls_after {P : Program} {f : FuncId} {args : Array Value} {w : World} {n : After w} {v : Value}
    (h : Calls P f args n.now fun e w' => e = .returned v ∧ Below n.now.heap.size n.now w') : Calls P f args n.now fun e w'' => e = .returned v ∧ ∃ m : After w, w'' = m.now :=
  h.mono fun _ w' ⟨he, hb⟩ => ⟨he, ⟨w', n.bel.trans (hb.mono n.bel.size)⟩, rfl⟩

theorem After.cell {w : World} {a : Addr} {v : Value} (h : w.cell? a = .some v) (n : After w) : n.now.cell? a = .some v := cell_later n.bel h

end Go.Proofs.Ytgmddookohkhlaa

/- The law's own measure, copy and comparison of lists of structs. -/
namespace Go.Proofs.Ytgmddookohkhlaa
open Go.RowKit
set_option linter.unusedVariables false

/-- The cells of Expr. -/
def ShExpr (vs : List Value) : Prop := ∃ (i0 : Int) (i1 : Int) (s2 : ByteArray) (a3 : Option Addr) (l3 c3 : Nat) (a4 : Option Addr) (l4 c4 : Nat), vs = [.int .i64 i0, .int .i64 i1, .string s2, .slice a3 l3 c3, .slice a4 l4 c4]

end Go.Proofs.Ytgmddookohkhlaa

/- The law's own measure, copy and comparison of lists of structs. -/
namespace Go.Proofs.Ytgmddookohkhlaa
open Go.RowKit
set_option linter.unusedVariables false

/-- The cells of Clause. -/
def ShClause (vs : List Value) : Prop := ∃ (i0 : Int) (i1 : Int) (s2 : ByteArray) (a3 : Option Addr) (l3 c3 : Nat) (a4 : Option Addr) (l4 c4 : Nat) (i5 : Int) (i6 : Int) (s7 : ByteArray) (a8 : Option Addr) (l8 c8 : Nat) (a9 : Option Addr) (l9 c9 : Nat), vs = [.int .i64 i0, .int .i64 i1, .string s2, .slice a3 l3 c3, .slice a4 l4 c4, .int .i64 i5, .int .i64 i6, .string s7, .slice a8 l8 c8, .slice a9 l9 c9]

end Go.Proofs.Ytgmddookohkhlaa

/- Expressions as data, to whatever depth; the law's own measure, copy and comparison of them. -/
namespace Go.Proofs.Ytgmddookohkhlaa
open Go.RowKit
set_option linter.unusedVariables false

/-- An expression of at most d storeys. -/
def Ex : Nat → Type
  | 0 => Empty
  | d + 1 => Int × Int × ByteArray × List (Ex d) × List (Ex d × Ex d)

def Ex.K {d : Nat} (e : Ex (d + 1)) : Int := e.1
def Ex.N {d : Nat} (e : Ex (d + 1)) : Int := e.2.1
def Ex.S {d : Nat} (e : Ex (d + 1)) : ByteArray := e.2.2.1
def Ex.E {d : Nat} (e : Ex (d + 1)) : List (Ex d) := e.2.2.2.1
def Ex.C {d : Nat} (e : Ex (d + 1)) : List (Ex d × Ex d) := e.2.2.2.2
def mkX {d : Nat} (k n : Int) (s : ByteArray) (es : List (Ex d)) (cs : List (Ex d × Ex d)) : Ex (d + 1) := (k, n, s, es, cs)

/-- Two by two. -/
def ClR {α : Type} (R : World → List Value → α → Prop) (w : World) (vs : List Value) (c : α × α) : Prop := ∃ p x, vs = p ++ x ∧ R w p c.1 ∧ R w x c.2
def ClO {α : Type} (O : World → List Value → α → List Nat → Prop) (w : World) (vs : List Value) (c : α × α) (fp : List Nat) : Prop := ∃ p x f g, vs = p ++ x ∧ fp = f ++ g ∧ O w p c.1 f ∧ O w x c.2 g
def ClP {α : Type} (P : α → Prop) (c : α × α) : Prop := P c.1 ∧ P c.2
def ClF {α : Type} (f : α → Nat) (c : α × α) : Nat := f c.1 + f c.2

/-- Five cells that tell an expression. -/
def ExR : (d : Nat) → World → List Value → Ex d → Prop
  | 0, _, _, _ => False
  | d + 1, w, vs, e => ∃ ve vc, vs = [.int .i64 e.K, .int .i64 e.N, .string e.S, ve, vc] ∧ RowOf 5 (ExR d) w ve e.E ∧ RowOf 10 (ClR (ExR d)) w vc e.C

/-- What every expression in memory is within. -/
def WfX : (d : Nat) → Ex d → Prop
  | 0, _ => False
  | d + 1, e => I64 e.K ∧ I64 e.N ∧ e.S.size ≤ maxLen ∧ WfRow (WfX d) e.E ∧ WfRow (ClP (WfX d)) e.C

/-- How great an expression is. -/
def szX : (d : Nat) → Ex d → Nat
  | 0, _ => 0
  | d + 1, e => e.S.size + szRow (szX d) e.E + szRow (ClF (szX d)) e.C

theorem ClR.lasts {α : Type} {R : World → List Value → α → Prop} (h : Lasts R) : Lasts (ClR R) := by
  rintro w w' vs c ⟨p, x, rfl, h1, h2⟩ hb
  exact ⟨p, x, rfl, h _ _ _ _ h1 hb, h _ _ _ _ h2 hb⟩
theorem ClO.lasts {α : Type} {O : World → List Value → α → List Nat → Prop} (h : LastsO O) : LastsO (ClO O) := by
  rintro w w' vs c fp ⟨p, x, f, g, rfl, rfl, h1, h2⟩ hb
  exact ⟨p, x, f, g, rfl, rfl, h _ _ _ _ _ h1 fun j hj => hb j (List.mem_append_left _ hj), h _ _ _ _ _ h2 fun j hj => hb j (List.mem_append_right _ hj)⟩
theorem ClO.reads {α : Type} {O : World → List Value → α → List Nat → Prop} {R : World → List Value → α → Prop} (h : Reads O R) : Reads (ClO O) (ClR R) := by
  rintro w vs c fp ⟨p, x, f, g, rfl, rfl, h1, h2⟩
  exact ⟨p, x, rfl, h _ _ _ _ h1, h _ _ _ _ h2⟩

theorem ExR.lasts : ∀ d, Lasts (ExR d) := by
  intro d
  induction d with
  | zero => intro w w' vs x h _; exact h.elim
  | succ d ih =>
    rintro w w' vs x ⟨ve, vc, rfl, h1, h2⟩ hb
    exact ⟨ve, vc, rfl, h1.later ih hb, h2.later (ClR.lasts ih) hb⟩
theorem ExR.shape : ∀ d w vs x, ExR d w vs x → ShExpr vs := by
  intro d w vs x h
  cases d with
  | zero => exact h.elim
  | succ d =>
    obtain ⟨ve, vc, rfl, h1, h2⟩ := h
    obtain ⟨a, c, rfl⟩ := h1.slice
    obtain ⟨a', c', rfl⟩ := h2.slice
    exact ⟨_, _, _, _, _, _, _, _, _, rfl⟩
theorem sh_two {p x : List Value} (h1 : ShExpr p) (h2 : ShExpr x) : ShClause (p ++ x) := by
  obtain ⟨_, _, _, _, _, _, _, _, _, rfl⟩ := h1
  obtain ⟨_, _, _, _, _, _, _, _, _, rfl⟩ := h2
  exact ⟨_, _, _, _, _, _, _, _, _, _, _, _, _, _, _, _, _, _, rfl⟩
theorem ClR.shape {α : Type} {R : World → List Value → α → Prop} (h : ∀ w vs x, R w vs x → ShExpr vs) : ∀ w vs c, ClR R w vs c → ShClause vs := by
  rintro w vs c ⟨p, x, rfl, h1, h2⟩
  exact sh_two (h _ _ _ h1) (h _ _ _ h2)
theorem ClO.shape {α : Type} {O : World → List Value → α → List Nat → Prop} (h : ∀ w vs x f, O w vs x f → ShExpr vs) : ∀ w vs c f, ClO O w vs c f → ShClause vs := by
  rintro w vs c fp ⟨p, x, f, g, rfl, rfl, h1, h2⟩
  exact sh_two (h _ _ _ _ h1) (h _ _ _ _ h2)

/-! The measure. -/

theorem lft_two (left : Int) (a b : Nat) (h : 0 ≤ left) : (lft left a < 0 → lft left (a + b) = -1) ∧ (¬ lft left a < 0 → lft (lft left a) b = lft left (a + b) ∧ 0 ≤ lft left a ∧ lft left a ≤ left) := by
  unfold lft
  refine ⟨fun h1 => ?_, fun h1 => ?_⟩
  · by_cases h2 : (a : Int) ≤ left
    · rw [if_pos h2] at h1; omega
    · rw [if_neg (by omega)]
  · by_cases h2 : (a : Int) ≤ left
    · rw [if_pos h2] at h1 ⊢
      refine ⟨?_, by omega, by omega⟩
      by_cases h3 : (b : Int) ≤ left - a
      · rw [if_pos h3, if_pos (by omega)]; omega
      · rw [if_neg h3, if_neg (by omega)]
    · rw [if_neg h2] at h1; omega

end Go.Proofs.Ytgmddookohkhlaa

/- The law's own copy and comparison of expressions: the walks. -/
namespace Go.Proofs.Ytgmddookohkhlaa
open Go.RowKit
set_option linter.unusedVariables false

/-- Of all that was there only the blocks of a stretch are turned. -/
structure Kept (p q : Nat) (w w' : World) : Prop where
  os : w'.os = w.os
  tape : w'.tape = w.tape
  output : w'.output = w.output
  size : w.heap.size ≤ w'.heap.size
  block : ∀ g, g < w.heap.size → g < p ∨ q ≤ g → w'.heap[g]? = w.heap[g]?

theorem Kept.refl (p q : Nat) (w : World) : Kept p q w w := ⟨rfl, rfl, rfl, Nat.le_refl _, fun _ _ _ => rfl⟩
theorem Kept.trans {p q : Nat} {a b c : World} (h : Kept p q a b) (k : Kept p q b c) : Kept p q a c :=
  ⟨k.os.trans h.os, k.tape.trans h.tape, k.output.trans h.output, Nat.le_trans h.size k.size, fun g h1 h2 => (k.block g (Nat.lt_of_lt_of_le h1 h.size) h2).trans (h.block g h1 h2)⟩
theorem Kept.drew {p q : Nat} {a w : World} (h : Kept p q a w) : Kept p q a w.drew := h.trans ⟨rfl, rfl, rfl, Nat.le_refl _, fun _ _ _ => rfl⟩
theorem Kept.set {p q : Nat} {a w : World} {g o : Nat} {v : Value} (hg : p ≤ g ∧ g < q) (h : Kept p q a w) : Kept p q a (w.setCell ⟨g, o, none⟩ v) := by
  have b := (Below.refl g w).setCell (p := ⟨g, o, none⟩) (Nat.le_refl g) v
  exact h.trans ⟨b.os, b.tape, b.output, b.size, fun x h1 h2 => heap_setCell_other _ _ _ _ (by simp; omega)⟩
theorem Kept.of_below {p q : Nat} {a b : World} (h : Below a.heap.size a b) : Kept p q a b := ⟨h.os, h.tape, h.output, h.size, fun g hg _ => h.block g hg⟩
theorem Kept.below {p q B : Nat} {a b : World} (h : Kept p q a b) (hp : B ≤ p) (hB : B ≤ a.heap.size) : Below B a b := ⟨h.os, h.tape, h.output, h.size, fun g hg => h.block g (by omega) (.inl (by omega))⟩

theorem heap_three (w : World) (o1 o2 o3 : Obj) : (((w.alloc o1).alloc o2).alloc o3).heap[w.heap.size]? = some o1 ∧ (((w.alloc o1).alloc o2).alloc o3).heap[w.heap.size + 1]? = some o2 ∧ (((w.alloc o1).alloc o2).alloc o3).heap[w.heap.size + 1 + 1]? = some o3 := by
  have h1 := heap_alloc_new w o1
  have h2 := heap_alloc_new (w.alloc o1) o2
  have h3 := heap_alloc_new ((w.alloc o1).alloc o2) o3
  have z1 : (w.alloc o1).heap.size = w.heap.size + 1 := by simp
  have z2 : ((w.alloc o1).alloc o2).heap.size = w.heap.size + 1 + 1 := by simp
  rw [z1] at h2
  rw [z2] at h3
  refine ⟨?_, ?_, h3⟩
  · rw [Below.heap_alloc _ _ _ (by omega), Below.heap_alloc _ _ _ (by omega)]; exact h1
  · rw [Below.heap_alloc _ _ _ (by omega)]; exact h2

theorem fresh_two {B : Nat} {w1 V1 w2 Z : World} {f g : List Nat} {m : Nat} (h1 : Fresh m w1 f) (h2 : Fresh V1.heap.size w2 g) (z1 : w1.heap.size ≤ V1.heap.size) (z2 : V1.heap.size ≤ w2.heap.size) (z3 : w2.heap.size ≤ Z.heap.size) (hB : B ≤ m) (hV : B ≤ V1.heap.size) : Fresh B Z (f ++ g) := by
  refine ⟨List.nodup_append.2 ⟨h1.1, h2.1, fun a ha b hb e => by have := (h1.2 a ha).2; have := (h2.2 b hb).1; omega⟩, fun x hx => ?_⟩
  rcases List.mem_append.1 hx with hx | hx
  · have := h1.2 x hx; omega
  · have := h2.2 x hx; omega

end Go.Proofs.Ytgmddookohkhlaa

/- The law's own measure, copy and comparison of lists of structs. -/
namespace Go.Proofs.Ytgmddookohkhlaa
open Go.RowKit
set_option linter.unusedVariables false

/-- The cells of Kid. -/
def ShKid (vs : List Value) : Prop := ∃ (s0 : ByteArray) (s1 : ByteArray) (i2 : Int) (i3 : Int) (s4 : ByteArray) (a5 : Option Addr) (l5 c5 : Nat) (i6 : Int), vs = [.string s0, .string s1, .int .i64 i2, .int .i64 i3, .string s4, .slice a5 l5 c5, .int .i64 i6]

set_option maxHeartbeats 1000000 in
theorem szKidS_of {α : Type} (R : World → List Value → α → Prop) (P : α → Prop) (f : α → Nat) (hR : Lasts R) (hS : ∀ w vs x, R w vs x → ShKid vs) (H : SzEl 51 R P f) : SzLs 26 7 R P f := by
  intro v xs left w hr hw h0 h1
  obtain ⟨a, c, rfl, hel⟩ := hr
  have HE : Hid (∀ (i : Nat) (x : α), xs[i]? = some x → ∃ b o vs, a = some ⟨b, o, none⟩ ∧ vs.length = 7 ∧ (∀ (j : Nat) (u : Value), vs[j]? = some u → w.cell? ⟨b, o + i * 7 + j, none⟩ = some u) ∧ R w vs x) := hel
  have HW : Hid (WfRow P xs) := hw
  have hm : xs.length ≤ 9223372036854775807 := hw.1
  clear hel hw
  obtain ⟨len, hlen⟩ : ∃ len, xs.length = len := ⟨_, rfl⟩
  have HLN : Hid (xs.length = len) := hlen
  rw [hlen] at hm ⊢
  clear hlen
  by_cases hlt : left < len
  · have HF : Hid ((-1 : Int) = lft left (szRow f xs)) := by show _ = _; have := sumP_all f xs; rw [HLN.out] at this; unfold lft; rw [if_neg (by omega)]
    go_enter Try.func26, Try.ntmps26
    go_wp2
    go_ret
    exact ⟨tret1 HF.out, Below.refl _ _⟩
  · go_enter Try.func26, Try.ntmps26
    go_wp2_with fail
    go_loopw [1, 5] (fun x i wr => ∃ k : Nat, k ≤ len ∧ i = .int .i64 k ∧ x = .int .i64 (left - len - sumP f xs k) ∧ 0 ≤ left - (len : Int) - sumP f xs k ∧ Below w.heap.size w wr) (fun _ i _ => len - (intOf i).toNat)
    case atStart => exact ⟨0, Nat.zero_le _, rfl, by simp [sumP], by simp [sumP]; omega, Below.refl _ _⟩
    case round =>
      obtain ⟨k, hk, rfl, rfl, hx0, hb⟩ := hrel
      obtain ⟨x, hx⟩ : ∃ x, left - (len : Int) - sumP f xs k = x := ⟨_, rfl⟩
      have HX : Hid (left - (len : Int) - sumP f xs k = x) := hx
      rw [hx] at hx0 ⊢
      have hx1 : x ≤ 1048576 := by omega
      clear hx
      by_cases hkl : k < len
      · obtain ⟨t, ht⟩ : ∃ t, xs[k]? = some t := ⟨_, List.getElem?_eq_getElem (by rw [HLN.out]; exact hkl)⟩
        obtain ⟨b, o, vs, rfl, hvl, hcell, hrt⟩ := HE.out k t ht
        obtain ⟨s0, s1, i2, i3, s4, a5, l5, c5, i6, rfl⟩ := hS _ _ _ hrt
        have hpt := HW.out.2 t (List.mem_of_getElem? ht)
        have f0 : wr.cell? ⟨b, o + k * 7, none⟩ = some _ := cell_later hb (hcell 0 _ rfl)
        have f1 : wr.cell? ⟨b, o + k * 7 + 1, none⟩ = some _ := cell_later hb (hcell 1 _ rfl)
        have f2 : wr.cell? ⟨b, o + k * 7 + 2, none⟩ = some _ := cell_later hb (hcell 2 _ rfl)
        have f3 : wr.cell? ⟨b, o + k * 7 + 3, none⟩ = some _ := cell_later hb (hcell 3 _ rfl)
        have f4 : wr.cell? ⟨b, o + k * 7 + 4, none⟩ = some _ := cell_later hb (hcell 4 _ rfl)
        have f5 : wr.cell? ⟨b, o + k * 7 + 5, none⟩ = some _ := cell_later hb (hcell 5 _ rfl)
        have f6 : wr.cell? ⟨b, o + k * 7 + 6, none⟩ = some _ := cell_later hb (hcell 6 _ rfl)
        have hC := H _ t x wr (hR _ _ _ _ hrt hb) hpt hx0 hx1
        have hstep := sumP_succ f xs k t ht
        obtain ⟨y, hy⟩ : ∃ y, lft x (f t) = y := ⟨_, rfl⟩
        rw [hy] at hC
        clear hcell hrt hpt hvl
        by_cases hneg : y < 0
        · have HF : Hid ((-1 : Int) = lft left (szRow f xs)) := by
            have h1 := sumP_all f xs
            have h2 := sumP_le f xs (k + 1)
            have h3 := HX.out
            have h5 := HLN.out
            have h6 : szRow f xs = xs.length + (xs.map f).sum := rfl
            unfold lft at hy
            show _ = _
            by_cases h4 : ((f t : Nat) : Int) ≤ x
            · rw [if_pos h4] at hy; omega
            · unfold lft; rw [if_neg (by omega)]
          clear hy hstep HX
          go_wp2_with fail
          refine hC.mono ?_
          clear hC
          rintro e w1 ⟨rfl, hb1⟩
          have hb2 : Below w.heap.size w w1 := hb.trans (hb1.mono hb.size)
          clear hb1 hb f0 f1 f2 f3 f4 f5 f6
          go_wp2
          go_ret
          exact ⟨tret1 HF.out, hb2⟩
        · have HY : Hid (y = left - (len : Int) - sumP f xs (k + 1) ∧ 0 ≤ left - (len : Int) - sumP f xs (k + 1)) := by
            have h3 := HX.out
            unfold lft at hy
            by_cases h4 : ((f t : Nat) : Int) ≤ x
            · rw [if_pos h4] at hy; show _ ∧ _; omega
            · rw [if_neg h4] at hy; omega
          clear hy hstep HX
          go_wp2_with fail
          refine hC.mono ?_
          clear hC
          rintro e w1 ⟨rfl, hb1⟩
          have hb2 : Below w.heap.size w w1 := hb.trans (hb1.mono hb.size)
          clear hb1 hb f0 f1 f2 f3 f4 f5 f6
          go_wp2
          go_roundw
          case rel => exact ⟨k + 1, by omega, by go_num, by rw [HY.out.1], HY.out.2, hb2⟩
          case measure => simp [intOf]; omega
      · have HF : Hid (x = lft left (szRow f xs)) := by
          have h1 := sumP_all f xs
          have h3 := HX.out
          have h5 := HLN.out
          have hk' : k = xs.length := by omega
          rw [hk'] at h3
          unfold lft; rw [if_pos (by omega)]; show _ = _; omega
        clear HX
        go_wp2
        go_ret
        exact ⟨tret1 HF.out, hb⟩

theorem Try.infoKid : (Try.prog.info? 55).map (fun i => (i.zero, i.size, i.bytes)) = some (some (.agg #[.string ⟨#[]⟩, .string ⟨#[]⟩, .int .i64 0, .int .i64 0, .string ⟨#[]⟩, .slice none 0 0, .int .i64 0]), 7, 96) := by kernel_rfl

set_option maxHeartbeats 2000000 in
theorem toKidS_of {α : Type} (R : World → List Value → α → Prop) (O : World → List Value → α → List Nat → Prop) (P : α → Prop) (f : α → Nat) (hR : Lasts R) (hO : LastsO O) (hS : ∀ w vs x, R w vs x → ShKid vs) (hSO : ∀ w vs x fp, O w vs x fp → ShKid vs) (H : ToEl 55 R O P f) : ToLs 30 7 55 R O P f := by
  obtain ⟨i0, hi, hz0, hz1, hz2⟩ := info_parts Try.infoKid
  intro v xs w hr hw hz
  obtain ⟨a, c, rfl, hel⟩ := hr
  have HE : Hid (∀ (i : Nat) (x : α), xs[i]? = some x → ∃ b o vs, a = some ⟨b, o, none⟩ ∧ vs.length = 7 ∧ (∀ (j : Nat) (u : Value), vs[j]? = some u → w.cell? ⟨b, o + i * 7 + j, none⟩ = some u) ∧ R w vs x) := hel
  have HW : Hid (WfRow P xs) := hw
  obtain ⟨len, hlen⟩ : ∃ len, xs.length = len := ⟨_, rfl⟩
  have HLN : Hid (xs.length = len) := hlen
  have hm : len ≤ 1048576 := by have := sumP_all f xs; omega
  have HZ : Hid (szRow f xs ≤ 1048576) := hz
  rw [hlen]
  clear hlen hel hw hz
  go_enter Try.func30, Try.ntmps30
  go_wp2_with (at_make; refine wpList_make_full _ rfl _ _ 28 rfl w.heap.size 55 i0 _ 7 Try.underlying28 hi hz0 hz1 _ _ _ _ len rfl rfl rfl rfl (by rw [hz2]; omega) (by unfold maxLen; omega) (Nat.le_refl _) ?_)
  intro w1 hown hgrow
  have hbel : Below w.heap.size w w1 := (Below.refl _ _).grown hgrow (Nat.le_refl _) (fun _ h => by cases h)
  obtain ⟨cur0, hc0, hs0⟩ : ∃ cur, w1.heap[w.heap.size]? = some (.cells cur 55 (0, 0)) ∧ cur.size = len * 7 := by
    rcases hown.2 with ⟨h', _⟩ | ⟨g', cap', cur, h', _, hg, _, _, hs, _⟩
    · simp at h'
    · simp only [Value.slice.injEq, Option.some.injEq, Addr.mk.injEq, and_true, true_and] at h'
      obtain ⟨rfl, rfl⟩ := h'
      exact ⟨cur, hg, hs⟩
  clear hown hgrow
  go_wp2
  go_loopw [4] (fun i wr => ∃ (k : Nat) (cur : Array Value) (fps : List (List Nat)), k ≤ len ∧ i = .int .i64 k ∧ wr.heap[w.heap.size]? = some (.cells cur 55 (0, 0)) ∧ cur.size = len * 7 ∧ fps.length = k ∧ fps.flatten.Nodup ∧ (∀ g ∈ fps.flatten, w.heap.size < g ∧ g < wr.heap.size) ∧ Below w.heap.size w wr ∧ Hid (DoneRow 7 O xs k wr cur fps)) (fun i _ => len - (intOf i).toNat)
  case atStart => exact ⟨0, cur0, [], Nat.zero_le _, rfl, hc0, hs0, rfl, by simp, by simp, hbel, fun i t hi => by omega⟩
  case round =>
    obtain ⟨k, cur, fps, hk, rfl, hh, hcs, hfl, hnd, hfr, hb, HD⟩ := hrel
    have HH : Hid (wr.heap[w.heap.size]? = some (.cells cur 55 (0, 0))) := hh
    have HFL : Hid (fps.length = k) := hfl
    have HCS : Hid (cur.size = len * 7) := hcs
    have HND : Hid (fps.flatten.Nodup ∧ (∀ g ∈ fps.flatten, w.heap.size < g ∧ g < wr.heap.size) ∧ Below w.heap.size w wr) := ⟨hnd, hfr, hb⟩
    have hwz : w.heap.size < wr.heap.size := Nat.lt_of_not_le fun hn => by simp [Array.getElem?_eq_none hn] at hh
    clear hc0 hs0 hbel hh hfl hcs hnd hfr
    by_cases hkl : k < len
    · obtain ⟨t, ht⟩ : ∃ t, xs[k]? = some t := ⟨_, List.getElem?_eq_getElem (by rw [HLN.out]; exact hkl)⟩
      obtain ⟨b, o, vs, rfl, hvl, hcell, hrt⟩ := HE.out k t ht
      obtain ⟨s0, s1, i2, i3, s4, a5, l5, c5, i6, rfl⟩ := hS _ _ _ hrt
      have hpt := HW.out.2 t (List.mem_of_getElem? ht)
      have f0 : wr.cell? ⟨b, o + k * 7, none⟩ = some _ := cell_later hb (hcell 0 _ rfl)
      have f1 : wr.cell? ⟨b, o + k * 7 + 1, none⟩ = some _ := cell_later hb (hcell 1 _ rfl)
      have f2 : wr.cell? ⟨b, o + k * 7 + 2, none⟩ = some _ := cell_later hb (hcell 2 _ rfl)
      have f3 : wr.cell? ⟨b, o + k * 7 + 3, none⟩ = some _ := cell_later hb (hcell 3 _ rfl)
      have f4 : wr.cell? ⟨b, o + k * 7 + 4, none⟩ = some _ := cell_later hb (hcell 4 _ rfl)
      have f5 : wr.cell? ⟨b, o + k * 7 + 5, none⟩ = some _ := cell_later hb (hcell 5 _ rfl)
      have f6 : wr.cell? ⟨b, o + k * 7 + 6, none⟩ = some _ := cell_later hb (hcell 6 _ rfl)
      have hzt : f t ≤ 1048576 := Nat.le_trans (szRow_mem ht) HZ.out
      have hC := H _ t wr (hR _ _ _ _ hrt hb) hpt hzt
      have HTT : Hid (xs[k]? = some t) := ht
      clear hcell hrt hpt hvl hb ht
      go_wp2_with fail
      refine hC.mono ?_
      clear hC
      rintro e w2 ⟨vs2, fp, rfl, hown, hfr2, hb2⟩
      have hh2 : w2.heap[w.heap.size]? = some (.cells cur 55 (0, 0)) := (hb2.block _ hwz).trans HH.out
      have hc4 : ∀ j, j < 7 → ∃ v, w2.cell? ⟨w.heap.size, k * 7 + j, none⟩ = some v := fun j hj => by
        rw [cell_of_row w2 _ _ _ _ _ hh2]
        exact ⟨_, Array.getElem?_eq_getElem (by have := HCS.out; omega)⟩
      obtain ⟨v0, c0'⟩ := hc4 0 (by omega)
      obtain ⟨v1, c1'⟩ := hc4 1 (by omega)
      obtain ⟨v2, c2'⟩ := hc4 2 (by omega)
      obtain ⟨v3, c3'⟩ := hc4 3 (by omega)
      obtain ⟨v4, c4'⟩ := hc4 4 (by omega)
      obtain ⟨v5, c5'⟩ := hc4 5 (by omega)
      obtain ⟨v6, c6'⟩ := hc4 6 (by omega)
      rw [Nat.add_zero] at c0'
      have z0 : w2.frozen? ⟨w.heap.size, k * 7, none⟩ = false := frozen_of_row w2 _ _ _ _ hh2
      have z1 : w2.frozen? ⟨w.heap.size, k * 7 + 1, none⟩ = false := frozen_of_row w2 _ _ _ _ hh2
      have z2 : w2.frozen? ⟨w.heap.size, k * 7 + 2, none⟩ = false := frozen_of_row w2 _ _ _ _ hh2
      have z3 : w2.frozen? ⟨w.heap.size, k * 7 + 3, none⟩ = false := frozen_of_row w2 _ _ _ _ hh2
      have z4 : w2.frozen? ⟨w.heap.size, k * 7 + 4, none⟩ = false := frozen_of_row w2 _ _ _ _ hh2
      have z5 : w2.frozen? ⟨w.heap.size, k * 7 + 5, none⟩ = false := frozen_of_row w2 _ _ _ _ hh2
      have z6 : w2.frozen? ⟨w.heap.size, k * 7 + 6, none⟩ = false := frozen_of_row w2 _ _ _ _ hh2
      obtain ⟨ys0, ys1, yi2, yi3, ys4, ya5, yl5, yc5, yi6, rfl⟩ := hSO _ _ _ _ hown
      obtain ⟨S1, S2, S3, S4, S5, S6, S7⟩ := row_step hO hkl HCS.out HFL.out HND.out.1 HND.out.2.1 hwz HND.out.2.2 hb2 HD.out HTT.out rfl hown hfr2 hh2
      have HS : Hid ((_ ∧ _ ∧ _ ∧ _ ∧ _ ∧ _) ∧ _) := ⟨⟨S1, S2, S3, S4, S5, S6⟩, S7⟩
      clear S1 S2 S3 S4 S5 S6 S7 hc4 hh2 f0 f1 f2 f3 f4 f5 f6 hown hfr2 hb2
      go_wp2
      go_roundw
      case rel => exact ⟨k + 1, _, _, by omega, by go_num, HS.out.1.1, HS.out.1.2.1, HS.out.1.2.2.1, HS.out.1.2.2.2.1, HS.out.1.2.2.2.2.1, HS.out.1.2.2.2.2.2, HS.out.2⟩
      case measure => simp [intOf]; omega
    · obtain rfl : k = len := by omega
      have HO := row_done (T := 55) (w := w) HLN.out HFL.out HND.out.1 HND.out.2.1 hwz HH.out HD.out
      have HFF : Hid _ := HO
      clear HO
      go_wp2
      go_ret
      exact ⟨_, _, _, _, rfl, HFF.out.1, HFF.out.2, hb⟩

set_option maxHeartbeats 1000000 in
theorem eqKidS_of {α : Type} (R : World → List Value → α → Prop) (P : α → Prop) (hR : Lasts R) (hS : ∀ w vs x, R w vs x → ShKid vs) (H : EqEl 61 R P) : EqLs 35 7 R P := by
  intro v1 v2 xs w h1 h2 hw
  obtain ⟨a1, c1, rfl, e1⟩ := h1
  obtain ⟨a2, c2, rfl, e2⟩ := h2
  have HE1 : Hid (∀ (i : Nat) (x : α), xs[i]? = some x → ∃ b o vs, a1 = some ⟨b, o, none⟩ ∧ vs.length = 7 ∧ (∀ (j : Nat) (u : Value), vs[j]? = some u → w.cell? ⟨b, o + i * 7 + j, none⟩ = some u) ∧ R w vs x) := e1
  have HE2 : Hid (∀ (i : Nat) (x : α), xs[i]? = some x → ∃ b o vs, a2 = some ⟨b, o, none⟩ ∧ vs.length = 7 ∧ (∀ (j : Nat) (u : Value), vs[j]? = some u → w.cell? ⟨b, o + i * 7 + j, none⟩ = some u) ∧ R w vs x) := e2
  have HW : Hid (WfRow P xs) := hw
  have hm : xs.length ≤ 9223372036854775807 := hw.1
  obtain ⟨len, hlen⟩ : ∃ len, xs.length = len := ⟨_, rfl⟩
  have HLN : Hid (xs.length = len) := hlen
  rw [hlen] at hm ⊢
  clear hlen e1 e2 hw
  go_enter Try.func35, Try.ntmps35
  go_wp2_with fail
  go_loopw [5] (fun i wr => ∃ k : Nat, k ≤ len ∧ i = .int .i64 k ∧ Below w.heap.size w wr) (fun i _ => len - (intOf i).toNat)
  case atStart => exact ⟨0, Nat.zero_le _, rfl, Below.refl _ _⟩
  case round =>
    obtain ⟨k, hk, rfl, hb⟩ := hrel
    by_cases hkl : k < len
    · obtain ⟨t, ht⟩ : ∃ t, xs[k]? = some t := ⟨_, List.getElem?_eq_getElem (by rw [HLN.out]; exact hkl)⟩
      obtain ⟨b, o, vs, rfl, hvl, hcell, hr1⟩ := HE1.out k t ht
      obtain ⟨b2, o2, vs2, rfl, hvl2, hcell2, hr2⟩ := HE2.out k t ht
      obtain ⟨s0, s1, i2, i3, s4, a5, l5, c5, i6, rfl⟩ := hS _ _ _ hr1
      obtain ⟨ys0, ys1, yi2, yi3, ys4, ya5, yl5, yc5, yi6, rfl⟩ := hS _ _ _ hr2
      have hpt := HW.out.2 t (List.mem_of_getElem? ht)
      have f0 : wr.cell? ⟨b, o + k * 7, none⟩ = some _ := cell_later hb (hcell 0 _ rfl)
      have f1 : wr.cell? ⟨b, o + k * 7 + 1, none⟩ = some _ := cell_later hb (hcell 1 _ rfl)
      have f2 : wr.cell? ⟨b, o + k * 7 + 2, none⟩ = some _ := cell_later hb (hcell 2 _ rfl)
      have f3 : wr.cell? ⟨b, o + k * 7 + 3, none⟩ = some _ := cell_later hb (hcell 3 _ rfl)
      have f4 : wr.cell? ⟨b, o + k * 7 + 4, none⟩ = some _ := cell_later hb (hcell 4 _ rfl)
      have f5 : wr.cell? ⟨b, o + k * 7 + 5, none⟩ = some _ := cell_later hb (hcell 5 _ rfl)
      have f6 : wr.cell? ⟨b, o + k * 7 + 6, none⟩ = some _ := cell_later hb (hcell 6 _ rfl)
      have g0 : wr.cell? ⟨b2, o2 + k * 7, none⟩ = some _ := cell_later hb (hcell2 0 _ rfl)
      have g1 : wr.cell? ⟨b2, o2 + k * 7 + 1, none⟩ = some _ := cell_later hb (hcell2 1 _ rfl)
      have g2 : wr.cell? ⟨b2, o2 + k * 7 + 2, none⟩ = some _ := cell_later hb (hcell2 2 _ rfl)
      have g3 : wr.cell? ⟨b2, o2 + k * 7 + 3, none⟩ = some _ := cell_later hb (hcell2 3 _ rfl)
      have g4 : wr.cell? ⟨b2, o2 + k * 7 + 4, none⟩ = some _ := cell_later hb (hcell2 4 _ rfl)
      have g5 : wr.cell? ⟨b2, o2 + k * 7 + 5, none⟩ = some _ := cell_later hb (hcell2 5 _ rfl)
      have g6 : wr.cell? ⟨b2, o2 + k * 7 + 6, none⟩ = some _ := cell_later hb (hcell2 6 _ rfl)
      have hkl' : (k : Int) < (len : Int) := by omega
      have HC : Hid (∀ W : World, Below wr.heap.size wr W → _) := fun W hW => H _ _ t W (hR _ _ _ _ (hR _ _ _ _ hr1 hb) hW) (hR _ _ _ _ (hR _ _ _ _ hr2 hb) hW) hpt
      clear hcell hcell2 hr1 hr2 hpt hvl hvl2
      have hn0 := After.some wr
      have p0 := After.cell f0
      have p1 := After.cell f1
      have p2 := After.cell f2
      have p3 := After.cell f3
      have p4 := After.cell f4
      have p5 := After.cell f5
      have p6 := After.cell f6
      have q0 := After.cell g0
      have q1 := After.cell g1
      have q2 := After.cell g2
      have q3 := After.cell g3
      have q4 := After.cell g4
      have q5 := After.cell g5
      have q6 := After.cell g6
      go_wp2_with fail
      refine wp_region_after (by kernel_rfl) (by kernel_rfl) ?_
      repeat (go_big_quiet_step ((go_at_call 61; exact calls_after (HC.out _ (After.bel _)))))
      refine wpQuiet_nil ?_
      rintro _ ⟨nq, rfl⟩
      have hb2 : Below w.heap.size w nq.now := hb.trans (nq.bel.mono hb.size)
      clear hb f0 f1 f2 f3 f4 f5 f6 g0 g1 g2 g3 g4 g5 g6 p0 q0 p1 q1 p2 q2 p3 q3 p4 q4 p5 q5 p6 q6
      go_wp2
      go_roundw
      case rel => exact ⟨k + 1, by omega, by go_num, hb2⟩
      case measure => simp [intOf]; omega
    · go_wp2
      go_ret
      exact ⟨rfl, hb⟩

end Go.Proofs.Ytgmddookohkhlaa

/- The law's own measure, copy and comparison of lists of structs. -/
namespace Go.Proofs.Ytgmddookohkhlaa
open Go.RowKit
set_option linter.unusedVariables false

/-- The cells of Pat. -/
def ShPat (vs : List Value) : Prop := ∃ (i0 : Int) (i1 : Int) (s2 : ByteArray) (a3 : Option Addr) (l3 c3 : Nat), vs = [.int .i64 i0, .int .i64 i1, .string s2, .slice a3 l3 c3]

end Go.Proofs.Ytgmddookohkhlaa

/- The law's own copy and comparison of expressions: the rest of the walks. -/
namespace Go.Proofs.Ytgmddookohkhlaa
open Go.RowKit
set_option linter.unusedVariables false

end Go.Proofs.Ytgmddookohkhlaa
