/- When a term is right, and that the model's checks tell it. -/
import Derived.Test.YtkfpfijblflcfaaCnt
namespace Go.Proofs.Ytkfpfijblflcfaa
open Go.RowKit
set_option linter.unusedVariables false

theorem iff_no {P : Prop} (h : ¬ P) : false = true ↔ P := ⟨fun e => Bool.noConfusion e, fun p => absurd p h⟩
theorem iff_yes {P : Prop} (h : P) : true = true ↔ P := ⟨fun _ => h, fun _ => rfl⟩

theorem specIn_any (x lo hi : Int) (w : World) :
    Calls Try.prog 26 #[.int .i64 x, .int .i64 lo, .int .i64 hi] w fun e w' => e = .returned (.bool (decide (lo ≤ x ∧ x ≤ hi))) ∧ w = w' := by
  by_cases h1 : lo ≤ x
  · by_cases h2 : x ≤ hi
    · have hd : decide (lo ≤ x ∧ x ≤ hi) = true := by simp [h1, h2]
      rw [hd]
      go_enter Try.func26, Try.ntmps26
      go_wp2
      go_ret
      exact ⟨rfl, rfl⟩
    · have hd : decide (lo ≤ x ∧ x ≤ hi) = false := by simp; omega
      rw [hd]
      go_enter Try.func26, Try.ntmps26
      go_wp2
      go_ret
      exact ⟨rfl, rfl⟩
  · have hd : decide (lo ≤ x ∧ x ≤ hi) = false := by simp; omega
    rw [hd]
    go_enter Try.func26, Try.ntmps26
    go_wp2
    go_ret
    exact ⟨rfl, rfl⟩

/-- A letter that an atom may have at place i. -/
def ChOk (i : Nat) (x : Int) : Prop := (97 ≤ x ∧ x ≤ 122) ∨ (i ≠ 0 ∧ ((48 ≤ x ∧ x ≤ 57) ∨ x = 95))

/-- An atom. -/
def AtomP (s : ByteArray) : Prop := (∀ (i : Nat) (h : i < s.size), ChOk i (s[i].toNat : Int)) ∧ 1 ≤ s.size ∧ s.size ≤ 20

set_option maxHeartbeats 1000000 in
theorem specAtomOk_any (s : ByteArray) (w : World) (hs : s.size ≤ 9223372036854775807) :
    Calls Try.prog 60 #[.string s] w fun e w' => ∃ b : Bool, e = .returned (.bool b) ∧ (b = true ↔ AtomP s) ∧ w = w' := by
  go_enter Try.func60, Try.ntmps60
  go_wp2_with fail
  go_loop [3] (fun i => ∃ k : Nat, k ≤ s.size ∧ i = .int .i64 k ∧ Hid (∀ (j : Nat) (h : j < s.size), j < k → ChOk j (s[j].toNat : Int))) (fun i => s.size - (intOf i).toNat)
  case atStart => exact ⟨0, Nat.zero_le _, rfl, fun j _ hj => by omega⟩
  case round =>
    obtain ⟨k, hk, rfl, HD⟩ := hrel
    by_cases hlt : k < s.size
    · have hbyte : (s[k].toNat : Int) ≤ 255 := by have := s[k].toNat_lt; omega
      obtain ⟨x, hx⟩ : ∃ x, wrap64 (s[k].toNat : Int) = x := ⟨_, rfl⟩
      have HX : Hid ((s[k].toNat : Int) = x) := by rw [← hx]; exact (IntWalk.wrap64_in _ ⟨by omega, by omega⟩).symm
      clear hbyte
      have HN : Hid (ChOk k x → ∀ (j : Nat) (h : j < s.size), j < k + 1 → ChOk j (s[j].toNat : Int)) := fun hc j hj hjk => by
        by_cases h : j < k
        · exact HD.out j hj h
        · obtain rfl : j = k := by omega
          rw [HX.out]; exact hc
      have HF : Hid (¬ ChOk k x → ¬ AtomP s) := fun hc ha => hc (by rw [← HX.out]; exact ha.1 k hlt)
      go_wp2_with fail
      clear hx
      generalize Value.int IntKind.u8 (s[k].toNat : Int) = u
      by_cases hsm : 97 ≤ x ∧ x ≤ 122
      · have hL := specIn_any x 97 122 w
        rw [show decide (97 ≤ x ∧ x ≤ 122) = true from by simp [hsm]] at hL
        have HR := HN.out (.inl hsm)
        have HRR : Hid (∀ (j : Nat) (h : j < s.size), j < k + 1 → ChOk j (s[j].toNat : Int)) := HR
        clear HR HN HF HX HD hsm
        refine hL.mono ?_
        clear hL
        rintro e w' ⟨rfl, rfl⟩
        go_wp2_with fail
        go_round
        case rel => exact ⟨k + 1, by omega, by go_num, HRR⟩
        case measure => simp [intOf]; omega
      · have hL := specIn_any x 97 122 w
        rw [show decide (97 ≤ x ∧ x ≤ 122) = false from by simp; omega] at hL
        refine hL.mono ?_
        clear hL
        rintro e w' ⟨rfl, rfl⟩
        by_cases hk0 : k = 0
        · have hb0 : ((k : Int) == 0) = true := by simp [hk0]
          have HR : Hid (¬ AtomP s) := HF.out (fun h => by rcases h with h | h; exact hsm h; exact h.1 hk0)
          clear HF HN HX HD hsm hk0
          go_wp2_with fail
          go_ret
          exact ⟨false, rfl, by simp only [Bool.false_eq_true, false_iff]; exact HR.out, rfl⟩
        · have hb0 : ((k : Int) == 0) = false := by simp [hk0]
          by_cases hdg : 48 ≤ x ∧ x ≤ 57
          · have hL := specIn_any x 48 57 w
            rw [show decide (48 ≤ x ∧ x ≤ 57) = true from by simp [hdg]] at hL
            have HRR : Hid (∀ (j : Nat) (h : j < s.size), j < k + 1 → ChOk j (s[j].toNat : Int)) := HN.out (.inr ⟨hk0, .inl hdg⟩)
            clear HN HF HX HD hsm hdg hk0
            go_wp2_with fail
            refine hL.mono ?_
            clear hL
            rintro e w' ⟨rfl, rfl⟩
            go_wp2_with fail
            go_round
            case rel => exact ⟨k + 1, by omega, by go_num, HRR⟩
            case measure => simp [intOf]; omega
          · have hL := specIn_any x 48 57 w
            rw [show decide (48 ≤ x ∧ x ≤ 57) = false from by simp; omega] at hL
            by_cases hu : x = 95
            · have hub : (x != 95) = false := by simp [hu]
              have HRR : Hid (∀ (j : Nat) (h : j < s.size), j < k + 1 → ChOk j (s[j].toNat : Int)) := HN.out (.inr ⟨hk0, .inr hu⟩)
              clear HN HF HX HD hsm hdg hk0 hu
              go_wp2_with fail
              refine hL.mono ?_
              clear hL
              rintro e w' ⟨rfl, rfl⟩
              go_wp2_with fail
              go_round
              case rel => exact ⟨k + 1, by omega, by go_num, HRR⟩
              case measure => simp [intOf]; omega
            · have hub : (x != 95) = true := by simp [hu]
              have HR : Hid (¬ AtomP s) := HF.out (fun h => by rcases h with h | ⟨_, h | h⟩; exact hsm h; exact hdg h; exact hu h)
              clear HF HN HX HD hsm hdg hk0 hu
              go_wp2_with fail
              refine hL.mono ?_
              clear hL
              rintro e w' ⟨rfl, rfl⟩
              go_wp2_with fail
              go_ret
              exact ⟨false, rfl, by simp only [Bool.false_eq_true, false_iff]; exact HR.out, rfl⟩
    · have hL := specIn_any s.size 1 20 w
      go_wp2_with fail
      refine hL.mono ?_
      clear hL
      rintro e w' ⟨rfl, rfl⟩
      have HF : Hid ((decide (1 ≤ (s.size : Int)) && decide ((s.size : Int) ≤ 20)) = true ↔ AtomP s) := by
        show _ ↔ _
        rw [Bool.and_eq_true, decide_eq_true_iff, decide_eq_true_iff]
        exact ⟨fun h => ⟨fun j hj => HD.out j hj (by omega), by omega, by omega⟩, fun h => ⟨by have := h.2.1; omega, by have := h.2.2; omega⟩⟩
      go_wp2
      go_ret
      exact ⟨_, rfl, HF.out, rfl⟩

/-- A term that is right, all but what is in it. -/
def Shape (k n : Int) (s : ByteArray) (len : Nat) : Prop :=
  (k = 1 ∧ (-1000000000000 ≤ n ∧ n ≤ 1000000000000) ∧ s.size = 0 ∧ len = 0) ∨ (k = 2 ∧ AtomP s ∧ n = 0 ∧ len = 0) ∨ (k = 3 ∧ (0 ≤ n ∧ n ≤ 1000000) ∧ s.size = 0 ∧ len = 0) ∨ (k = 4 ∧ n = 0 ∧ s.size = 0 ∧ len ≤ 20) ∨ (k = 5 ∧ n = 0 ∧ s.size = 0 ∧ len ≤ 60)

theorem shape1 (n : Int) (s : ByteArray) (len : Nat) : Shape 1 n s len ↔ (-1000000000000 ≤ n ∧ n ≤ 1000000000000) ∧ s.size = 0 ∧ len = 0 := by simp [Shape]
theorem shape2 (n : Int) (s : ByteArray) (len : Nat) : Shape 2 n s len ↔ AtomP s ∧ n = 0 ∧ len = 0 := by simp [Shape]
theorem shape3 (n : Int) (s : ByteArray) (len : Nat) : Shape 3 n s len ↔ (0 ≤ n ∧ n ≤ 1000000) ∧ s.size = 0 ∧ len = 0 := by simp [Shape]
theorem shape4 (n : Int) (s : ByteArray) (len : Nat) : Shape 4 n s len ↔ n = 0 ∧ s.size = 0 ∧ len ≤ 20 := by simp [Shape]
theorem shape5 (n : Int) (s : ByteArray) (len : Nat) : Shape 5 n s len ↔ n = 0 ∧ s.size = 0 ∧ len ≤ 60 := by simp [Shape]

theorem empty_iff (s : ByteArray) : s.toList.isEmpty = true ↔ s.size = 0 := by
  rw [ByteArray.toList_eq, List.isEmpty_iff, Array.toList_eq_nil_iff]
  exact ⟨fun h => by show s.data.size = 0; rw [h]; rfl, fun h => Array.eq_empty_of_size_eq_zero h⟩
theorem empty_no {s : ByteArray} (h : ¬ s.size = 0) : s.toList.isEmpty = false := by
  cases h' : s.toList.isEmpty with
  | false => rfl
  | true => exact absurd ((empty_iff s).1 h') h

/-- The contract of the check of a shape. -/
def ShapeC (f : Nat) : Prop := ∀ (k n : Int) (s : ByteArray) (a : Option Addr) (len c : Nat) (w : World), s.size ≤ 9223372036854775807 → len ≤ 9223372036854775807 →
  Calls Try.prog f #[.agg #[.int .i64 k, .int .i64 n, .string s, .slice a len c]] w fun e w' => ∃ b : Bool, e = .returned (.bool b) ∧ (b = true ↔ Shape k n s len) ∧ Below w.heap.size w w'

set_option maxHeartbeats 2000000 in
theorem specShape_any : ShapeC 96 := by
  intro k n s a len c w hs hlen
  have hA : Below w.heap.size w (w.alloc (.cells #[.int .i64 k, .int .i64 n, .string s, .slice a len c] 41)) := (Below.refl _ _).alloc (Nat.le_refl _) _
  by_cases h1 : k = 1
  · subst h1
    rw [shape1]
    have hL := specIn_any n (-1000000000000) 1000000000000 (w.alloc (.cells #[.int .i64 1, .int .i64 n, .string s, .slice a len c] 41))
    by_cases hn : -1000000000000 ≤ n ∧ n ≤ 1000000000000
    · rw [show decide (-1000000000000 ≤ n ∧ n ≤ 1000000000000) = true from by simp [hn]] at hL
      by_cases hse : s.size = 0
      · have he := (empty_iff s).2 hse
        by_cases hl0 : len = 0
        · have hlb : ((len : Int) == 0) = true := by simp [hl0]
          have HF : Hid ((-1000000000000 ≤ n ∧ n ≤ 1000000000000) ∧ s.size = 0 ∧ len = 0) := ⟨hn, hse, hl0⟩
          clear hn hse hl0
          go_enter Try.func96, Try.ntmps96
          go_wp2_with fail
          refine hL.mono ?_
          clear hL
          rintro e w' ⟨rfl, rfl⟩
          go_wp2_with fail
          go_ret
          exact ⟨true, rfl, iff_yes HF.out, hA⟩
        · have hlb : ((len : Int) == 0) = false := by simp [hl0]
          have HF : Hid (¬ ((-1000000000000 ≤ n ∧ n ≤ 1000000000000) ∧ s.size = 0 ∧ len = 0)) := fun h => hl0 h.2.2
          clear hn hse hl0
          go_enter Try.func96, Try.ntmps96
          go_wp2_with fail
          refine hL.mono ?_
          clear hL
          rintro e w' ⟨rfl, rfl⟩
          go_wp2_with fail
          go_ret
          exact ⟨false, rfl, iff_no HF.out, hA⟩
      · have he := empty_no hse
        have HF : Hid (¬ ((-1000000000000 ≤ n ∧ n ≤ 1000000000000) ∧ s.size = 0 ∧ len = 0)) := fun h => hse h.2.1
        clear hn hse
        go_enter Try.func96, Try.ntmps96
        go_wp2_with fail
        refine hL.mono ?_
        clear hL
        rintro e w' ⟨rfl, rfl⟩
        go_wp2_with fail
        go_ret
        exact ⟨false, rfl, iff_no HF.out, hA⟩
    · rw [show decide (-1000000000000 ≤ n ∧ n ≤ 1000000000000) = false from by simp; omega] at hL
      have HF : Hid (¬ ((-1000000000000 ≤ n ∧ n ≤ 1000000000000) ∧ s.size = 0 ∧ len = 0)) := fun h => hn h.1
      clear hn
      go_enter Try.func96, Try.ntmps96
      go_wp2_with fail
      refine hL.mono ?_
      clear hL
      rintro e w' ⟨rfl, rfl⟩
      go_wp2_with fail
      go_ret
      exact ⟨false, rfl, iff_no HF.out, hA⟩
  by_cases h2 : k = 2
  · subst h2
    rw [shape2]
    have hL := specAtomOk_any s (w.alloc (.cells #[.int .i64 2, .int .i64 n, .string s, .slice a len c] 41)) hs
    go_enter Try.func96, Try.ntmps96
    go_wp2_with fail
    refine hL.mono ?_
    clear hL
    rintro e w' ⟨b, rfl, hb, rfl⟩
    cases b
    · have HF : Hid (¬ (AtomP s ∧ n = 0 ∧ len = 0)) := fun h => by have := hb.2 h.1; cases this
      clear hb
      go_wp2_with fail
      go_ret
      exact ⟨false, rfl, iff_no HF.out, hA⟩
    · have HA : Hid (AtomP s) := hb.1 rfl
      clear hb
      by_cases hn : n = 0
      · have hnb : (n == 0) = true := by simp [hn]
        by_cases hl0 : len = 0
        · have hlb : ((len : Int) == 0) = true := by simp [hl0]
          have HF : Hid (AtomP s ∧ n = 0 ∧ len = 0) := ⟨HA.out, hn, hl0⟩
          clear hn hl0
          go_wp2_with fail
          go_ret
          exact ⟨true, rfl, iff_yes HF.out, hA⟩
        · have hlb : ((len : Int) == 0) = false := by simp [hl0]
          have HF : Hid (¬ (AtomP s ∧ n = 0 ∧ len = 0)) := fun h => hl0 h.2.2
          clear hn hl0
          go_wp2_with fail
          go_ret
          exact ⟨false, rfl, iff_no HF.out, hA⟩
      · have hnb : (n == 0) = false := by simp [hn]
        have HF : Hid (¬ (AtomP s ∧ n = 0 ∧ len = 0)) := fun h => hn h.2.1
        clear hn
        go_wp2_with fail
        go_ret
        exact ⟨false, rfl, iff_no HF.out, hA⟩
  by_cases h3 : k = 3
  · subst h3
    rw [shape3]
    have hL := specIn_any n (0) 1000000 (w.alloc (.cells #[.int .i64 3, .int .i64 n, .string s, .slice a len c] 41))
    by_cases hn : 0 ≤ n ∧ n ≤ 1000000
    · rw [show decide (0 ≤ n ∧ n ≤ 1000000) = true from by simp [hn]] at hL
      by_cases hse : s.size = 0
      · have he := (empty_iff s).2 hse
        by_cases hl0 : len = 0
        · have hlb : ((len : Int) == 0) = true := by simp [hl0]
          have HF : Hid ((0 ≤ n ∧ n ≤ 1000000) ∧ s.size = 0 ∧ len = 0) := ⟨hn, hse, hl0⟩
          clear hn hse hl0
          go_enter Try.func96, Try.ntmps96
          go_wp2_with fail
          refine hL.mono ?_
          clear hL
          rintro e w' ⟨rfl, rfl⟩
          go_wp2_with fail
          go_ret
          exact ⟨true, rfl, iff_yes HF.out, hA⟩
        · have hlb : ((len : Int) == 0) = false := by simp [hl0]
          have HF : Hid (¬ ((0 ≤ n ∧ n ≤ 1000000) ∧ s.size = 0 ∧ len = 0)) := fun h => hl0 h.2.2
          clear hn hse hl0
          go_enter Try.func96, Try.ntmps96
          go_wp2_with fail
          refine hL.mono ?_
          clear hL
          rintro e w' ⟨rfl, rfl⟩
          go_wp2_with fail
          go_ret
          exact ⟨false, rfl, iff_no HF.out, hA⟩
      · have he := empty_no hse
        have HF : Hid (¬ ((0 ≤ n ∧ n ≤ 1000000) ∧ s.size = 0 ∧ len = 0)) := fun h => hse h.2.1
        clear hn hse
        go_enter Try.func96, Try.ntmps96
        go_wp2_with fail
        refine hL.mono ?_
        clear hL
        rintro e w' ⟨rfl, rfl⟩
        go_wp2_with fail
        go_ret
        exact ⟨false, rfl, iff_no HF.out, hA⟩
    · rw [show decide (0 ≤ n ∧ n ≤ 1000000) = false from by simp; omega] at hL
      have HF : Hid (¬ ((0 ≤ n ∧ n ≤ 1000000) ∧ s.size = 0 ∧ len = 0)) := fun h => hn h.1
      clear hn
      go_enter Try.func96, Try.ntmps96
      go_wp2_with fail
      refine hL.mono ?_
      clear hL
      rintro e w' ⟨rfl, rfl⟩
      go_wp2_with fail
      go_ret
      exact ⟨false, rfl, iff_no HF.out, hA⟩
  by_cases h4 : k = 4
  · subst h4
    rw [shape4]
    by_cases hn : n = 0
    · have hnb : (n == 0) = true := by simp [hn]
      by_cases hse : s.size = 0
      · have he := (empty_iff s).2 hse
        by_cases hl0 : len ≤ 20
        · have HF : Hid (n = 0 ∧ s.size = 0 ∧ len ≤ 20) := ⟨hn, hse, hl0⟩
          have hlb : decide ((len : Int) ≤ 20) = true := by simp; omega
          clear hn hse hl0
          go_enter Try.func96, Try.ntmps96
          go_wp2_with fail
          go_ret
          exact ⟨true, rfl, iff_yes HF.out, hA⟩
        · have HF : Hid (¬ (n = 0 ∧ s.size = 0 ∧ len ≤ 20)) := fun h => hl0 h.2.2
          have hlb : decide ((len : Int) ≤ 20) = false := by simp; omega
          clear hn hse hl0
          go_enter Try.func96, Try.ntmps96
          go_wp2_with fail
          go_ret
          exact ⟨false, rfl, iff_no HF.out, hA⟩
      · have he := empty_no hse
        have HF : Hid (¬ (n = 0 ∧ s.size = 0 ∧ len ≤ 20)) := fun h => hse h.2.1
        clear hn hse
        go_enter Try.func96, Try.ntmps96
        go_wp2_with fail
        go_ret
        exact ⟨false, rfl, iff_no HF.out, hA⟩
    · have hnb : (n == 0) = false := by simp [hn]
      have HF : Hid (¬ (n = 0 ∧ s.size = 0 ∧ len ≤ 20)) := fun h => hn h.1
      clear hn
      go_enter Try.func96, Try.ntmps96
      go_wp2_with fail
      go_ret
      exact ⟨false, rfl, iff_no HF.out, hA⟩
  by_cases h5 : k = 5
  · subst h5
    rw [shape5]
    by_cases hn : n = 0
    · have hnb : (n == 0) = true := by simp [hn]
      by_cases hse : s.size = 0
      · have he := (empty_iff s).2 hse
        by_cases hl0 : len ≤ 60
        · have HF : Hid (n = 0 ∧ s.size = 0 ∧ len ≤ 60) := ⟨hn, hse, hl0⟩
          have hlb : decide ((len : Int) ≤ 60) = true := by simp; omega
          clear hn hse hl0
          go_enter Try.func96, Try.ntmps96
          go_wp2_with fail
          go_ret
          exact ⟨true, rfl, iff_yes HF.out, hA⟩
        · have HF : Hid (¬ (n = 0 ∧ s.size = 0 ∧ len ≤ 60)) := fun h => hl0 h.2.2
          have hlb : decide ((len : Int) ≤ 60) = false := by simp; omega
          clear hn hse hl0
          go_enter Try.func96, Try.ntmps96
          go_wp2_with fail
          go_ret
          exact ⟨false, rfl, iff_no HF.out, hA⟩
      · have he := empty_no hse
        have HF : Hid (¬ (n = 0 ∧ s.size = 0 ∧ len ≤ 60)) := fun h => hse h.2.1
        clear hn hse
        go_enter Try.func96, Try.ntmps96
        go_wp2_with fail
        go_ret
        exact ⟨false, rfl, iff_no HF.out, hA⟩
    · have hnb : (n == 0) = false := by simp [hn]
      have HF : Hid (¬ (n = 0 ∧ s.size = 0 ∧ len ≤ 60)) := fun h => hn h.1
      clear hn
      go_enter Try.func96, Try.ntmps96
      go_wp2_with fail
      go_ret
      exact ⟨false, rfl, iff_no HF.out, hA⟩
  have HF : Hid (¬ Shape k n s len) := fun h => by rcases h with h | h | h | h | h; exact h1 h.1; exact h2 h.1; exact h3 h.1; exact h4 h.1; exact h5 h.1
  have e1 : (k == 1) = false := by simp [h1]
  have e2 : (k == 2) = false := by simp [h2]
  have e3 : (k == 3) = false := by simp [h3]
  have e4 : (k == 4) = false := by simp [h4]
  have e5 : (k == 5) = false := by simp [h5]
  clear h1 h2 h3 h4 h5
  go_enter Try.func96, Try.ntmps96
  go_wp2_with fail
  go_ret
  exact ⟨false, rfl, iff_no HF.out, hA⟩

end Go.Proofs.Ytkfpfijblflcfaa
