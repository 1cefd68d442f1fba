/- When a term is right, and that the model's checks tell it. -/
import Derived.Test.YtjdhkhpdhblhbaaTmM
import Derived.BigQuiet
import Derived.Deep.DeepCutAuto
import Derived.Deep.CutRange
namespace Go.Proofs.Ytjdhkhpdhblhbaa
open Go.RowKit
set_option linter.unusedVariables false

theorem iff_no {P : Prop} (h : ¬ P) : false = true ↔ P := ⟨fun e => Bool.noConfusion e, fun p => absurd p h⟩
theorem iff_yes {P : Prop} (h : P) : true = true ↔ P := ⟨fun _ => h, fun _ => rfl⟩

theorem specIn_any (x lo hi : Int) (w : World) :
    Calls Try.prog 70 #[.int .i64 x, .int .i64 lo, .int .i64 hi] w fun e w' => e = .returned (.bool (decide (lo ≤ x ∧ x ≤ hi))) ∧ w = w' := by
  by_cases h1 : lo ≤ x
  · by_cases h2 : x ≤ hi
    · have hd : decide (lo ≤ x ∧ x ≤ hi) = true := by simp [h1, h2]
      rw [hd]
      go_enter Try.func70, Try.ntmps70
      go_wp2
      go_ret
      exact ⟨rfl, rfl⟩
    · have hd : decide (lo ≤ x ∧ x ≤ hi) = false := by simp; omega
      rw [hd]
      go_enter Try.func70, Try.ntmps70
      go_wp2
      go_ret
      exact ⟨rfl, rfl⟩
  · have hd : decide (lo ≤ x ∧ x ≤ hi) = false := by simp; omega
    rw [hd]
    go_enter Try.func70, Try.ntmps70
    go_wp2
    go_ret
    exact ⟨rfl, rfl⟩

/-- A letter that an atom may have at place i. -/
def ChOk (i : Nat) (x : Int) : Prop := (97 ≤ x ∧ x ≤ 122) ∨ (i ≠ 0 ∧ ((48 ≤ x ∧ x ≤ 57) ∨ x = 95))

/-- An atom. -/
def AtomP (s : ByteArray) : Prop := (∀ (i : Nat) (h : i < s.size), ChOk i (s[i].toNat : Int)) ∧ 1 ≤ s.size ∧ s.size ≤ 20

set_option maxHeartbeats 1000000 in
theorem specAtomOk_any (s : ByteArray) (w : World) (hs : s.size ≤ 9223372036854775807) :
    Calls Try.prog 71 #[.string s] w fun e w' => ∃ b : Bool, e = .returned (.bool b) ∧ (b = true ↔ AtomP s) ∧ w = w' := by
  go_enter Try.func71, Try.ntmps71
  go_wp2_with fail
  go_loop [3] (fun i => ∃ k : Nat, k ≤ s.size ∧ i = .int .i64 k ∧ Hid (∀ (j : Nat) (h : j < s.size), j < k → ChOk j (s[j].toNat : Int))) (fun i => s.size - (intOf i).toNat)
  case atStart => exact ⟨0, Nat.zero_le _, rfl, fun j _ hj => by omega⟩
  case round =>
    obtain ⟨k, hk, rfl, HD⟩ := hrel
    by_cases hlt : k < s.size
    · have hbyte : (s[k].toNat : Int) ≤ 255 := by have := s[k].toNat_lt; omega
      obtain ⟨x, hx⟩ : ∃ x, wrap64 (s[k].toNat : Int) = x := ⟨_, rfl⟩
      have HX : Hid ((s[k].toNat : Int) = x) := by rw [← hx]; exact (IntWalk.wrap64_in _ ⟨by omega, by omega⟩).symm
      clear hbyte
      have HN : Hid (ChOk k x → ∀ (j : Nat) (h : j < s.size), j < k + 1 → ChOk j (s[j].toNat : Int)) := fun hc j hj hjk => by
        by_cases h : j < k
        · exact HD.out j hj h
        · obtain rfl : j = k := by omega
          rw [HX.out]; exact hc
      have HF : Hid (¬ ChOk k x → ¬ AtomP s) := fun hc ha => hc (by rw [← HX.out]; exact ha.1 k hlt)
      go_wp2_with fail
      clear hx
      generalize Value.int IntKind.u8 (s[k].toNat : Int) = u
      by_cases hsm : 97 ≤ x ∧ x ≤ 122
      · have hL := specIn_any x 97 122 w
        rw [show decide (97 ≤ x ∧ x ≤ 122) = true from by simp [hsm]] at hL
        have HR := HN.out (.inl hsm)
        have HRR : Hid (∀ (j : Nat) (h : j < s.size), j < k + 1 → ChOk j (s[j].toNat : Int)) := HR
        clear HR HN HF HX HD hsm
        refine hL.mono ?_
        clear hL
        rintro e w' ⟨rfl, rfl⟩
        go_wp2_with fail
        go_round
        case rel => exact ⟨k + 1, by omega, by go_num, HRR⟩
        case measure => simp [intOf]; omega
      · have hL := specIn_any x 97 122 w
        rw [show decide (97 ≤ x ∧ x ≤ 122) = false from by simp; omega] at hL
        refine hL.mono ?_
        clear hL
        rintro e w' ⟨rfl, rfl⟩
        by_cases hk0 : k = 0
        · have hb0 : ((k : Int) == 0) = true := by simp [hk0]
          have HR : Hid (¬ AtomP s) := HF.out (fun h => by rcases h with h | h; exact hsm h; exact h.1 hk0)
          clear HF HN HX HD hsm hk0
          go_wp2_with fail
          go_ret
          exact ⟨false, rfl, by simp only [Bool.false_eq_true, false_iff]; exact HR.out, rfl⟩
        · have hb0 : ((k : Int) == 0) = false := by simp [hk0]
          by_cases hdg : 48 ≤ x ∧ x ≤ 57
          · have hL := specIn_any x 48 57 w
            rw [show decide (48 ≤ x ∧ x ≤ 57) = true from by simp [hdg]] at hL
            have HRR : Hid (∀ (j : Nat) (h : j < s.size), j < k + 1 → ChOk j (s[j].toNat : Int)) := HN.out (.inr ⟨hk0, .inl hdg⟩)
            clear HN HF HX HD hsm hdg hk0
            go_wp2_with fail
            refine hL.mono ?_
            clear hL
            rintro e w' ⟨rfl, rfl⟩
            go_wp2_with fail
            go_round
            case rel => exact ⟨k + 1, by omega, by go_num, HRR⟩
            case measure => simp [intOf]; omega
          · have hL := specIn_any x 48 57 w
            rw [show decide (48 ≤ x ∧ x ≤ 57) = false from by simp; omega] at hL
            by_cases hu : x = 95
            · have hub : (x != 95) = false := by simp [hu]
              have HRR : Hid (∀ (j : Nat) (h : j < s.size), j < k + 1 → ChOk j (s[j].toNat : Int)) := HN.out (.inr ⟨hk0, .inr hu⟩)
              clear HN HF HX HD hsm hdg hk0 hu
              go_wp2_with fail
              refine hL.mono ?_
              clear hL
              rintro e w' ⟨rfl, rfl⟩
              go_wp2_with fail
              go_round
              case rel => exact ⟨k + 1, by omega, by go_num, HRR⟩
              case measure => simp [intOf]; omega
            · have hub : (x != 95) = true := by simp [hu]
              have HR : Hid (¬ AtomP s) := HF.out (fun h => by rcases h with h | ⟨_, h | h⟩; exact hsm h; exact hdg h; exact hu h)
              clear HF HN HX HD hsm hdg hk0 hu
              go_wp2_with fail
              refine hL.mono ?_
              clear hL
              rintro e w' ⟨rfl, rfl⟩
              go_wp2_with fail
              go_ret
              exact ⟨false, rfl, by simp only [Bool.false_eq_true, false_iff]; exact HR.out, rfl⟩
    · have hL := specIn_any s.size 1 20 w
      go_wp2_with fail
      refine hL.mono ?_
      clear hL
      rintro e w' ⟨rfl, rfl⟩
      have HF : Hid ((decide (1 ≤ (s.size : Int)) && decide ((s.size : Int) ≤ 20)) = true ↔ AtomP s) := by
        show _ ↔ _
        rw [Bool.and_eq_true, decide_eq_true_iff, decide_eq_true_iff]
        exact ⟨fun h => ⟨fun j hj => HD.out j hj (by omega), by omega, by omega⟩, fun h => ⟨by have := h.2.1; omega, by have := h.2.2; omega⟩⟩
      go_wp2
      go_ret
      exact ⟨_, rfl, HF.out, rfl⟩

/-- A term that is right, all but what is in it. -/
def Shape (k n : Int) (s : ByteArray) (len : Nat) : Prop :=
  (k = 1 ∧ (-1000000000000 ≤ n ∧ n ≤ 1000000000000) ∧ s.size = 0 ∧ len = 0) ∨ (k = 2 ∧ AtomP s ∧ n = 0 ∧ len = 0) ∨ (k = 3 ∧ (0 ≤ n ∧ n ≤ 1000000) ∧ s.size = 0 ∧ len = 0) ∨ (k = 4 ∧ n = 0 ∧ s.size = 0 ∧ len ≤ 20) ∨ (k = 5 ∧ n = 0 ∧ s.size = 0 ∧ len ≤ 60)

theorem shape1 (n : Int) (s : ByteArray) (len : Nat) : Shape 1 n s len ↔ (-1000000000000 ≤ n ∧ n ≤ 1000000000000) ∧ s.size = 0 ∧ len = 0 := by simp [Shape]
theorem shape2 (n : Int) (s : ByteArray) (len : Nat) : Shape 2 n s len ↔ AtomP s ∧ n = 0 ∧ len = 0 := by simp [Shape]
theorem shape3 (n : Int) (s : ByteArray) (len : Nat) : Shape 3 n s len ↔ (0 ≤ n ∧ n ≤ 1000000) ∧ s.size = 0 ∧ len = 0 := by simp [Shape]
theorem shape4 (n : Int) (s : ByteArray) (len : Nat) : Shape 4 n s len ↔ n = 0 ∧ s.size = 0 ∧ len ≤ 20 := by simp [Shape]
theorem shape5 (n : Int) (s : ByteArray) (len : Nat) : Shape 5 n s len ↔ n = 0 ∧ s.size = 0 ∧ len ≤ 60 := by simp [Shape]

theorem empty_iff (s : ByteArray) : s.toList.isEmpty = true ↔ s.size = 0 := by
  rw [ByteArray.toList_eq, List.isEmpty_iff, Array.toList_eq_nil_iff]
  exact ⟨fun h => by show s.data.size = 0; rw [h]; rfl, fun h => Array.eq_empty_of_size_eq_zero h⟩
theorem empty_no {s : ByteArray} (h : ¬ s.size = 0) : s.toList.isEmpty = false := by
  cases h' : s.toList.isEmpty with
  | false => rfl
  | true => exact absurd ((empty_iff s).1 h') h

/-- The contract of the check of a shape. -/
def ShapeC (f : Nat) : Prop := ∀ (k n : Int) (s : ByteArray) (a : Option Addr) (len c : Nat) (w : World), s.size ≤ 9223372036854775807 → len ≤ 9223372036854775807 →
  Calls Try.prog f #[.agg #[.int .i64 k, .int .i64 n, .string s, .slice a len c]] w fun e w' => ∃ b : Bool, e = .returned (.bool b) ∧ (b = true ↔ Shape k n s len) ∧ Below w.heap.size w w'

set_option maxHeartbeats 2000000 in
theorem specShape_any : ShapeC 55 := by
  intro k n s a len c w hs hlen
  have hA : Below w.heap.size w (w.alloc (.cells #[.int .i64 k, .int .i64 n, .string s, .slice a len c] 29)) := (Below.refl _ _).alloc (Nat.le_refl _) _
  by_cases h1 : k = 1
  · subst h1
    rw [shape1]
    have hL := specIn_any n (-1000000000000) 1000000000000 (w.alloc (.cells #[.int .i64 1, .int .i64 n, .string s, .slice a len c] 29))
    by_cases hn : -1000000000000 ≤ n ∧ n ≤ 1000000000000
    · rw [show decide (-1000000000000 ≤ n ∧ n ≤ 1000000000000) = true from by simp [hn]] at hL
      by_cases hse : s.size = 0
      · have he := (empty_iff s).2 hse
        by_cases hl0 : len = 0
        · have hlb : ((len : Int) == 0) = true := by simp [hl0]
          have HF : Hid ((-1000000000000 ≤ n ∧ n ≤ 1000000000000) ∧ s.size = 0 ∧ len = 0) := ⟨hn, hse, hl0⟩
          clear hn hse hl0
          go_enter Try.func55, Try.ntmps55
          go_wp2_with fail
          refine hL.mono ?_
          clear hL
          rintro e w' ⟨rfl, rfl⟩
          go_wp2_with fail
          go_ret
          exact ⟨true, rfl, iff_yes HF.out, hA⟩
        · have hlb : ((len : Int) == 0) = false := by simp [hl0]
          have HF : Hid (¬ ((-1000000000000 ≤ n ∧ n ≤ 1000000000000) ∧ s.size = 0 ∧ len = 0)) := fun h => hl0 h.2.2
          clear hn hse hl0
          go_enter Try.func55, Try.ntmps55
          go_wp2_with fail
          refine hL.mono ?_
          clear hL
          rintro e w' ⟨rfl, rfl⟩
          go_wp2_with fail
          go_ret
          exact ⟨false, rfl, iff_no HF.out, hA⟩
      · have he := empty_no hse
        have HF : Hid (¬ ((-1000000000000 ≤ n ∧ n ≤ 1000000000000) ∧ s.size = 0 ∧ len = 0)) := fun h => hse h.2.1
        clear hn hse
        go_enter Try.func55, Try.ntmps55
        go_wp2_with fail
        refine hL.mono ?_
        clear hL
        rintro e w' ⟨rfl, rfl⟩
        go_wp2_with fail
        go_ret
        exact ⟨false, rfl, iff_no HF.out, hA⟩
    · rw [show decide (-1000000000000 ≤ n ∧ n ≤ 1000000000000) = false from by simp; omega] at hL
      have HF : Hid (¬ ((-1000000000000 ≤ n ∧ n ≤ 1000000000000) ∧ s.size = 0 ∧ len = 0)) := fun h => hn h.1
      clear hn
      go_enter Try.func55, Try.ntmps55
      go_wp2_with fail
      refine hL.mono ?_
      clear hL
      rintro e w' ⟨rfl, rfl⟩
      go_wp2_with fail
      go_ret
      exact ⟨false, rfl, iff_no HF.out, hA⟩
  by_cases h2 : k = 2
  · subst h2
    rw [shape2]
    have hL := specAtomOk_any s (w.alloc (.cells #[.int .i64 2, .int .i64 n, .string s, .slice a len c] 29)) hs
    go_enter Try.func55, Try.ntmps55
    go_wp2_with fail
    refine hL.mono ?_
    clear hL
    rintro e w' ⟨b, rfl, hb, rfl⟩
    cases b
    · have HF : Hid (¬ (AtomP s ∧ n = 0 ∧ len = 0)) := fun h => by have := hb.2 h.1; cases this
      clear hb
      go_wp2_with fail
      go_ret
      exact ⟨false, rfl, iff_no HF.out, hA⟩
    · have HA : Hid (AtomP s) := hb.1 rfl
      clear hb
      by_cases hn : n = 0
      · have hnb : (n == 0) = true := by simp [hn]
        by_cases hl0 : len = 0
        · have hlb : ((len : Int) == 0) = true := by simp [hl0]
          have HF : Hid (AtomP s ∧ n = 0 ∧ len = 0) := ⟨HA.out, hn, hl0⟩
          clear hn hl0
          go_wp2_with fail
          go_ret
          exact ⟨true, rfl, iff_yes HF.out, hA⟩
        · have hlb : ((len : Int) == 0) = false := by simp [hl0]
          have HF : Hid (¬ (AtomP s ∧ n = 0 ∧ len = 0)) := fun h => hl0 h.2.2
          clear hn hl0
          go_wp2_with fail
          go_ret
          exact ⟨false, rfl, iff_no HF.out, hA⟩
      · have hnb : (n == 0) = false := by simp [hn]
        have HF : Hid (¬ (AtomP s ∧ n = 0 ∧ len = 0)) := fun h => hn h.2.1
        clear hn
        go_wp2_with fail
        go_ret
        exact ⟨false, rfl, iff_no HF.out, hA⟩
  by_cases h3 : k = 3
  · subst h3
    rw [shape3]
    have hL := specIn_any n (0) 1000000 (w.alloc (.cells #[.int .i64 3, .int .i64 n, .string s, .slice a len c] 29))
    by_cases hn : 0 ≤ n ∧ n ≤ 1000000
    · rw [show decide (0 ≤ n ∧ n ≤ 1000000) = true from by simp [hn]] at hL
      by_cases hse : s.size = 0
      · have he := (empty_iff s).2 hse
        by_cases hl0 : len = 0
        · have hlb : ((len : Int) == 0) = true := by simp [hl0]
          have HF : Hid ((0 ≤ n ∧ n ≤ 1000000) ∧ s.size = 0 ∧ len = 0) := ⟨hn, hse, hl0⟩
          clear hn hse hl0
          go_enter Try.func55, Try.ntmps55
          go_wp2_with fail
          refine hL.mono ?_
          clear hL
          rintro e w' ⟨rfl, rfl⟩
          go_wp2_with fail
          go_ret
          exact ⟨true, rfl, iff_yes HF.out, hA⟩
        · have hlb : ((len : Int) == 0) = false := by simp [hl0]
          have HF : Hid (¬ ((0 ≤ n ∧ n ≤ 1000000) ∧ s.size = 0 ∧ len = 0)) := fun h => hl0 h.2.2
          clear hn hse hl0
          go_enter Try.func55, Try.ntmps55
          go_wp2_with fail
          refine hL.mono ?_
          clear hL
          rintro e w' ⟨rfl, rfl⟩
          go_wp2_with fail
          go_ret
          exact ⟨false, rfl, iff_no HF.out, hA⟩
      · have he := empty_no hse
        have HF : Hid (¬ ((0 ≤ n ∧ n ≤ 1000000) ∧ s.size = 0 ∧ len = 0)) := fun h => hse h.2.1
        clear hn hse
        go_enter Try.func55, Try.ntmps55
        go_wp2_with fail
        refine hL.mono ?_
        clear hL
        rintro e w' ⟨rfl, rfl⟩
        go_wp2_with fail
        go_ret
        exact ⟨false, rfl, iff_no HF.out, hA⟩
    · rw [show decide (0 ≤ n ∧ n ≤ 1000000) = false from by simp; omega] at hL
      have HF : Hid (¬ ((0 ≤ n ∧ n ≤ 1000000) ∧ s.size = 0 ∧ len = 0)) := fun h => hn h.1
      clear hn
      go_enter Try.func55, Try.ntmps55
      go_wp2_with fail
      refine hL.mono ?_
      clear hL
      rintro e w' ⟨rfl, rfl⟩
      go_wp2_with fail
      go_ret
      exact ⟨false, rfl, iff_no HF.out, hA⟩
  by_cases h4 : k = 4
  · subst h4
    rw [shape4]
    by_cases hn : n = 0
    · have hnb : (n == 0) = true := by simp [hn]
      by_cases hse : s.size = 0
      · have he := (empty_iff s).2 hse
        by_cases hl0 : len ≤ 20
        · have HF : Hid (n = 0 ∧ s.size = 0 ∧ len ≤ 20) := ⟨hn, hse, hl0⟩
          have hlb : decide ((len : Int) ≤ 20) = true := by simp; omega
          clear hn hse hl0
          go_enter Try.func55, Try.ntmps55
          go_wp2_with fail
          go_ret
          exact ⟨true, rfl, iff_yes HF.out, hA⟩
        · have HF : Hid (¬ (n = 0 ∧ s.size = 0 ∧ len ≤ 20)) := fun h => hl0 h.2.2
          have hlb : decide ((len : Int) ≤ 20) = false := by simp; omega
          clear hn hse hl0
          go_enter Try.func55, Try.ntmps55
          go_wp2_with fail
          go_ret
          exact ⟨false, rfl, iff_no HF.out, hA⟩
      · have he := empty_no hse
        have HF : Hid (¬ (n = 0 ∧ s.size = 0 ∧ len ≤ 20)) := fun h => hse h.2.1
        clear hn hse
        go_enter Try.func55, Try.ntmps55
        go_wp2_with fail
        go_ret
        exact ⟨false, rfl, iff_no HF.out, hA⟩
    · have hnb : (n == 0) = false := by simp [hn]
      have HF : Hid (¬ (n = 0 ∧ s.size = 0 ∧ len ≤ 20)) := fun h => hn h.1
      clear hn
      go_enter Try.func55, Try.ntmps55
      go_wp2_with fail
      go_ret
      exact ⟨false, rfl, iff_no HF.out, hA⟩
  by_cases h5 : k = 5
  · subst h5
    rw [shape5]
    by_cases hn : n = 0
    · have hnb : (n == 0) = true := by simp [hn]
      by_cases hse : s.size = 0
      · have he := (empty_iff s).2 hse
        by_cases hl0 : len ≤ 60
        · have HF : Hid (n = 0 ∧ s.size = 0 ∧ len ≤ 60) := ⟨hn, hse, hl0⟩
          have hlb : decide ((len : Int) ≤ 60) = true := by simp; omega
          clear hn hse hl0
          go_enter Try.func55, Try.ntmps55
          go_wp2_with fail
          go_ret
          exact ⟨true, rfl, iff_yes HF.out, hA⟩
        · have HF : Hid (¬ (n = 0 ∧ s.size = 0 ∧ len ≤ 60)) := fun h => hl0 h.2.2
          have hlb : decide ((len : Int) ≤ 60) = false := by simp; omega
          clear hn hse hl0
          go_enter Try.func55, Try.ntmps55
          go_wp2_with fail
          go_ret
          exact ⟨false, rfl, iff_no HF.out, hA⟩
      · have he := empty_no hse
        have HF : Hid (¬ (n = 0 ∧ s.size = 0 ∧ len ≤ 60)) := fun h => hse h.2.1
        clear hn hse
        go_enter Try.func55, Try.ntmps55
        go_wp2_with fail
        go_ret
        exact ⟨false, rfl, iff_no HF.out, hA⟩
    · have hnb : (n == 0) = false := by simp [hn]
      have HF : Hid (¬ (n = 0 ∧ s.size = 0 ∧ len ≤ 60)) := fun h => hn h.1
      clear hn
      go_enter Try.func55, Try.ntmps55
      go_wp2_with fail
      go_ret
      exact ⟨false, rfl, iff_no HF.out, hA⟩
  have HF : Hid (¬ Shape k n s len) := fun h => by rcases h with h | h | h | h | h; exact h1 h.1; exact h2 h.1; exact h3 h.1; exact h4 h.1; exact h5 h.1
  have e1 : (k == 1) = false := by simp [h1]
  have e2 : (k == 2) = false := by simp [h2]
  have e3 : (k == 3) = false := by simp [h3]
  have e4 : (k == 4) = false := by simp [h4]
  have e5 : (k == 5) = false := by simp [h5]
  clear h1 h2 h3 h4 h5
  go_enter Try.func55, Try.ntmps55
  go_wp2_with fail
  go_ret
  exact ⟨false, rfl, iff_no HF.out, hA⟩

end Go.Proofs.Ytjdhkhpdhblhbaa

/- When a term is right in all its storeys, and that the model's walk over it tells it. -/
namespace Go.Proofs.Ytjdhkhpdhblhbaa
open Go.RowKit
set_option linter.unusedVariables false

/-- All terms of a list have their shapes, all storeys. -/
def OkL : (d : Nat) → List (Tm d) → Prop
  | 0, _ => True
  | d + 1, ts => ∀ t ∈ ts, Shape t.K t.N t.S t.L.length ∧ OkL d t.L

/-- A term that is right, no deeper than told, of no more than are left. -/
def Right (d : Nat) (k n : Int) (s : ByteArray) (ts : List (Tm d)) (deep left : Int) : Prop :=
  Shape k n s ts.length ∧ OkL d ts ∧ ((1 + depL d ts : Nat) : Int) ≤ deep ∧ ((1 + cntL d ts : Nat) : Int) ≤ left

theorem depL_le {d : Nat} {ts : List (Tm (d + 1))} {m : Nat} : depL (d + 1) ts ≤ m ↔ ∀ t ∈ ts, 1 + depL d t.L ≤ m := by
  constructor
  · intro h t ht
    have := (foldl_max_ge (ts.map fun t => 1 + depL d t.L) 0).2 _ (List.mem_map.2 ⟨t, ht, rfl⟩)
    exact Nat.le_trans this h
  · intro h
    refine foldl_max_le _ 0 m (Nat.zero_le _) fun x hx => ?_
    obtain ⟨t, ht, rfl⟩ := List.mem_map.1 hx
    exact h t ht

/-- The contract of a walk that tells how many may be left. -/
def LookC (f d : Nat) : Prop := ∀ (k n : Int) (s : ByteArray) (l : Value) (ts : List (Tm d)) (deep left : Int) (w : World), RdL d w l ts → WfL d ts → s.size ≤ 9223372036854775807 → -1000 ≤ deep → deep ≤ 1000 → -1000 ≤ left → left ≤ 1000000 →
  Calls Try.prog f #[.agg #[.int .i64 k, .int .i64 n, .string s, l], .int .i64 deep, .int .i64 left] w fun e w' => ∃ r : Int, e = .returned (.int .i64 r) ∧ ((Right d k n s ts deep left ∧ r = left - (1 + cntL d ts : Nat)) ∨ (¬ Right d k n s ts deep left ∧ r = -1)) ∧ Below w.heap.size w w'

set_option maxHeartbeats 1000000 in
/-- What is refused at once. -/
theorem specLook_no (k n : Int) (s : ByteArray) (a : Option Addr) (len c : Nat) (deep left : Int) (w : World) (hs : s.size ≤ 9223372036854775807) (hl : len ≤ 9223372036854775807)
    (h : deep < 1 ∨ left < 1 ∨ ¬ Shape k n s len) :
    Calls Try.prog 34 #[.agg #[.int .i64 k, .int .i64 n, .string s, .slice a len c], .int .i64 deep, .int .i64 left] w fun e w' => e = .returned (.int .i64 (-1)) ∧ Below w.heap.size w w' := by
  obtain ⟨W, hW⟩ : ∃ W, W = w.alloc (.cells #[.int .i64 k, .int .i64 n, .string s, .slice a len c] 29) := ⟨_, rfl⟩
  have hA : Below w.heap.size w W := by rw [hW]; exact (Below.refl _ _).alloc (Nat.le_refl _) _
  by_cases h1 : deep < 1
  · rw [hW] at hA
    clear hW
    go_enter Try.func34, Try.ntmps34
    go_wp2_with fail
    go_ret
    exact ⟨rfl, hA⟩
  · by_cases h2 : left < 1
    · rw [hW] at hA
      clear hW
      go_enter Try.func34, Try.ntmps34
      go_wp2_with fail
      go_ret
      exact ⟨rfl, hA⟩
    · have h3 : Hid (¬ Shape k n s len) := by rcases h with h | h | h; exact absurd h h1; exact absurd h h2; exact h
      have hC := specShape_any k n s a len c W hs hl
      rw [hW] at hC
      have HW : Hid (W = _) := hW
      clear h hW
      go_enter Try.func34, Try.ntmps34
      go_wp2_with fail
      refine hC.mono ?_
      clear hC
      rintro e w1 ⟨b, rfl, hb, hB⟩
      rw [← HW.out] at hB
      have hb2 : Below w.heap.size w w1 := hA.trans (hB.mono hA.size)
      have : b = false := by cases b; rfl; exact absurd (hb.1 rfl) h3.out
      subst this
      clear hb hB hA HW h3
      go_wp2_with fail
      go_ret
      exact ⟨rfl, hb2⟩

theorem right_zero {k n : Int} {s : ByteArray} {ts : List (Tm 0)} {deep left : Int} (h1 : ¬ deep < 1) (h2 : ¬ left < 1) (h3 : Shape k n s ts.length) : Right 0 k n s ts deep left :=
  ⟨h3, trivial, by show ((1 + 0 : Nat) : Int) ≤ deep; omega, by show ((1 + 0 : Nat) : Int) ≤ left; omega⟩

/-- The first j terms of a list are right. -/
def RightP (d : Nat) (ts : List (Tm (d + 1))) (deep left : Int) (j : Nat) : Prop :=
  (∀ i t, i < j → ts[i]? = some t → Shape t.K t.N t.S t.L.length ∧ OkL d t.L ∧ ((1 + depL d t.L : Nat) : Int) ≤ deep - 1) ∧ ((1 + cntP d ts j : Nat) : Int) ≤ left

theorem rightP_all {d : Nat} {k n : Int} {s : ByteArray} {ts : List (Tm (d + 1))} {deep left : Int} {j : Nat} (hd : ¬ deep < 1) (h3 : Shape k n s ts.length) (hj : ts.length ≤ j) (h : RightP d ts deep left j) : Right (d + 1) k n s ts deep left := by
  refine ⟨h3, fun t ht => ?_, ?_, by have := h.2; rw [cntP_all d ts j hj] at this; exact this⟩
  · obtain ⟨i, hi, e⟩ := List.getElem_of_mem ht
    have := h.1 i t (by omega) (by rw [List.getElem?_eq_getElem hi, e])
    exact ⟨this.1, this.2.1⟩
  · have : depL (d + 1) ts ≤ (deep - 1).toNat := depL_le.2 fun t ht => by
      obtain ⟨i, hi, e⟩ := List.getElem_of_mem ht
      have := (h.1 i t (by omega) (by rw [List.getElem?_eq_getElem hi, e])).2.2
      omega
    omega

theorem right_elem {d : Nat} {k n : Int} {s : ByteArray} {ts : List (Tm (d + 1))} {deep left : Int} {j : Nat} {t : Tm (d + 1)} (ht : ts[j]? = some t) (h : Right (d + 1) k n s ts deep left) : Right d t.K t.N t.S t.L (deep - 1) (left - 1 - cntP d ts j) := by
  have hm := List.mem_of_getElem? ht
  obtain ⟨_, h2, h3, h4⟩ := h
  have h5 := h2 t hm
  have h6 : 1 + depL d t.L ≤ depL (d + 1) ts := (depL_le (m := depL (d + 1) ts)).1 (Nat.le_refl _) t hm
  have h7 := cntP_succ d ts j t ht
  have h8 := cntP_le d ts (j + 1)
  exact ⟨h5.1, h5.2, by omega, by omega⟩

theorem rightP_step {d : Nat} {ts : List (Tm (d + 1))} {deep left : Int} {j : Nat} {t : Tm (d + 1)} (ht : ts[j]? = some t) (h : RightP d ts deep left j) (hr : Right d t.K t.N t.S t.L (deep - 1) (left - 1 - cntP d ts j)) : RightP d ts deep left (j + 1) := by
  have h7 := cntP_succ d ts j t ht
  obtain ⟨r1, r2, r3, r4⟩ := hr
  refine ⟨fun i u hi hu => ?_, by omega⟩
  by_cases hij : i < j
  · exact h.1 i u hij hu
  · obtain rfl : i = j := by omega
    rw [ht] at hu
    obtain rfl := Option.some.inj hu
    exact ⟨r1, r2, r3⟩

set_option maxHeartbeats 2000000 in
theorem specLook_any : ∀ d, LookC 34 d := by
  intro d
  induction d with
  | zero =>
    intro k n s l ts deep left w hr hw hs hd0 hd1 hl0 hl1
    obtain ⟨a, c, rfl⟩ := hr.len
    have hln := hw.len
    by_cases h : deep < 1 ∨ left < 1 ∨ ¬ Shape k n s ts.length
    · refine (specLook_no k n s a _ c deep left w hs hln h).mono ?_
      rintro e w' ⟨rfl, hb⟩
      refine ⟨-1, rfl, .inr ⟨fun hR => ?_, rfl⟩, hb⟩
      obtain ⟨r1, _, r3, r4⟩ := hR
      rcases h with h | h | h
      · omega
      · omega
      · exact h r1
    · have h1 : ¬ deep < 1 := fun e => h (.inl e)
      have h2 : ¬ left < 1 := fun e => h (.inr (.inl e))
      have h3 : Shape k n s ts.length := Classical.byContradiction fun e => h (.inr (.inr e))
      have HR : Hid (Right 0 k n s ts deep left) := right_zero h1 h2 h3
      have hz : ts.length = 0 := by
        cases ts with
        | nil => rfl
        | cons t _ => exact Empty.elim t
      have H3 : Hid (Shape k n s 0) := by rw [← hz]; exact h3
      rw [hz]
      obtain ⟨W, hW⟩ : ∃ W, W = w.alloc (.cells #[.int .i64 k, .int .i64 n, .string s, .slice a 0 c] 29) := ⟨_, rfl⟩
      have hA : Below w.heap.size w W := by rw [hW]; exact (Below.refl _ _).alloc (Nat.le_refl _) _
      have hWz : W.heap.size = w.heap.size + 1 := by rw [hW]; simp
      have hB1 : W.heap[w.heap.size]? = some (.cells #[.int .i64 k, .int .i64 n, .string s, .slice a 0 c] 29 (0, 0)) := by rw [hW]; exact heap_alloc_new w _
      have hC := specShape_any k n s a 0 c W hs (by omega)
      rw [hW] at hC
      have HW : Hid (W = _) := hW
      clear h hW h3
      go_enter Try.func34, Try.ntmps34
      go_wp2_with fail
      refine hC.mono ?_
      clear hC
      rintro e w1 ⟨b, rfl, hb, hB⟩
      rw [← HW.out] at hB
      have hb2 : Below w.heap.size w w1 := hA.trans (hB.mono hA.size)
      have : b = true := hb.2 H3.out
      subst this
      have c1 : w1.cell? ⟨w.heap.size, 3, none⟩ = some (.slice a 0 c) := by rw [cell_of_row w1 _ 3 _ _ _ ((hB.block _ (by omega)).trans hB1)]; rfl
      clear hb hB hA HW hB1
      go_wp2_with fail
      refine wp_loop_rounds 1 ?_
      rw [rounds_succ]
      go_wp2
      go_ret
      exact ⟨_, rfl, .inl ⟨HR.out, rfl⟩, hb2⟩
  | succ d ih =>
    intro k n s l ts deep left w hr hw hs hd0 hd1 hl0 hl1
    obtain ⟨a, c, rfl, hel⟩ := hr
    have hln := hw.len
    by_cases h : deep < 1 ∨ left < 1 ∨ ¬ Shape k n s ts.length
    · refine (specLook_no k n s a _ c deep left w hs hln h).mono ?_
      rintro e w' ⟨rfl, hb⟩
      refine ⟨-1, rfl, .inr ⟨fun hR => ?_, rfl⟩, hb⟩
      obtain ⟨r1, _, r3, r4⟩ := hR
      rcases h with h | h | h
      · omega
      · omega
      · exact h r1
    · have h1 : ¬ deep < 1 := fun e => h (.inl e)
      have h2 : ¬ left < 1 := fun e => h (.inr (.inl e))
      have H3 : Hid (Shape k n s ts.length) := Classical.byContradiction fun e => h (.inr (.inr e))
      have HE : Hid (∀ (i : Nat) (t : Tm (d + 1)), ts[i]? = some t → ∃ b o lv, a = some ⟨b, o, none⟩ ∧ Four w b (o + i * 4) t.K t.N t.S lv ∧ RdL d w lv t.L) := hel
      have HWF : Hid (WfL (d + 1) ts) := hw
      obtain ⟨len, hl⟩ : ∃ len, ts.length = len := ⟨_, rfl⟩
      have HL : Hid (ts.length = len) := hl
      rw [hl] at hln ⊢
      obtain ⟨W, hW⟩ : ∃ W, W = w.alloc (.cells #[.int .i64 k, .int .i64 n, .string s, .slice a len c] 29) := ⟨_, rfl⟩
      have hA : Below w.heap.size w W := by rw [hW]; exact (Below.refl _ _).alloc (Nat.le_refl _) _
      have hWz : W.heap.size = w.heap.size + 1 := by rw [hW]; simp
      have hB1 : W.heap[w.heap.size]? = some (.cells #[.int .i64 k, .int .i64 n, .string s, .slice a len c] 29 (0, 0)) := by rw [hW]; exact heap_alloc_new w _
      have hC := specShape_any k n s a len c W hs hln
      rw [hW] at hC
      have HW : Hid (W = _) := hW
      have HI : Hid (LookC 34 d) := ih
      clear h hW ih hel hw hl
      go_enter Try.func34, Try.ntmps34
      go_wp2_with fail
      refine hC.mono ?_
      clear hC
      rintro e w1 ⟨b, rfl, hb, hB⟩
      rw [← HW.out] at hB
      have : b = true := hb.2 (by rw [← HL.out]; exact H3.out)
      subst this
      have HB1 : Hid (w1.heap[w.heap.size]? = _) := (hB.block _ (by omega)).trans hB1
      have hbw1 : Below w.heap.size w w1 := hA.trans (hB.mono hA.size)
      have hwz : w.heap.size < w1.heap.size := by have := hB.size; omega
      clear hb hB hA HW hB1 hWz
      go_wp2_with fail
      go_loopw [2, 7] (fun x i wr => ∃ (j : Nat) (y : Int), j ≤ len ∧ i = .int .i64 j ∧ x = .int .i64 y ∧ Below w1.heap.size w1 wr ∧ Hid ((RightP d ts deep left j ∧ y = left - 1 - cntP d ts j) ∨ (¬ Right (d + 1) k n s ts deep left ∧ y = -1))) (fun _ i _ => len - (intOf i).toNat)
      case atStart => exact ⟨0, _, Nat.zero_le _, rfl, rfl, Below.refl _ _, .inl ⟨⟨fun i t hi => by omega, by show ((1 + 0 : Nat) : Int) ≤ left; omega⟩, by show left - 1 = left - 1 - ((0 : Nat) : Int); omega⟩⟩
      case round =>
        obtain ⟨j, y, hj, rfl, rfl, hb, HS⟩ := hrel
        have c1 : wr.cell? ⟨w.heap.size, 3, none⟩ = some (.slice a len c) := by rw [cell_of_row wr _ 3 _ _ _ ((hb.block _ hwz).trans HB1.out)]; rfl
        have hbw : Below w.heap.size w wr := hbw1.trans (hb.mono hbw1.size)
        rcases HS.out with ⟨hP, hy⟩ | ⟨hN, hy⟩
        · have hy0 : 0 ≤ y := by have := hP.2; omega
          have hy1 : y ≤ 1000000 := by omega
          by_cases hjl : j < len
          · obtain ⟨t, ht⟩ : ∃ t, ts[j]? = some t := ⟨_, List.getElem?_eq_getElem (by rw [HL.out]; exact hjl)⟩
            obtain ⟨b1, o1, lv1, rfl, F1, L1⟩ := HE.out j t ht
            obtain ⟨_, _, hst, hwt⟩ := HWF.out.2 t (List.mem_of_getElem? ht)
            obtain ⟨f0, f1, f2, f3⟩ := F1.later hbw
            have hC := HI.out t.K t.N t.S lv1 t.L (deep - 1) y wr (L1.later hbw) hwt hst (by omega) (by omega) (by omega) (by omega)
            have HNX : Hid (∀ r : Int, ((Right d t.K t.N t.S t.L (deep - 1) y ∧ r = y - (1 + cntL d t.L : Nat)) ∨ (¬ Right d t.K t.N t.S t.L (deep - 1) y ∧ r = -1)) → (RightP d ts deep left (j + 1) ∧ r = left - 1 - cntP d ts (j + 1)) ∨ (¬ Right (d + 1) k n s ts deep left ∧ r = -1)) := fun r hr => by
              have hstep := cntP_succ d ts j t ht
              rcases hr with ⟨r1, r2⟩ | ⟨r1, r2⟩
              · rw [hy] at r1
                exact .inl ⟨rightP_step ht hP r1, by omega⟩
              · exact .inr ⟨fun hR => r1 (by rw [hy]; exact right_elem ht hR), r2⟩
            have hjl' : (j : Int) < (len : Int) := by omega
            clear F1 L1 hwt hst ht hP hy HS
            go_wp2_with fail
            refine hC.mono ?_
            clear hC
            rintro e V ⟨r, rfl, hr, hB⟩
            have HR2 : Hid _ := HNX.out r hr
            have hb2 : Below w1.heap.size w1 V := hb.trans (hB.mono hb.size)
            clear hb hB f0 f1 f2 f3 c1 hr HNX
            go_wp2
            go_roundw
            case rel => exact ⟨j + 1, r, by omega, by go_num, rfl, hb2, HR2⟩
            case measure => simp [intOf]; omega
          · have HR : Hid (Right (d + 1) k n s ts deep left) := rightP_all (by omega) H3.out (by have := HL.out; omega) hP
            have HY : Hid (y = left - (1 + cntL (d + 1) ts : Nat)) := by have := cntP_all d ts j (by have := HL.out; omega); show _ = _; omega
            clear hb hP hy HS
            go_wp2
            go_ret
            exact ⟨y, rfl, .inl ⟨HR.out, HY.out⟩, hbw⟩
        · have HR : Hid (¬ Right (d + 1) k n s ts deep left) := hN
          subst hy
          clear hb hN HS
          by_cases hjl : j < len
          · have hjl' : (j : Int) < (len : Int) := by omega
            go_wp2
            go_ret
            exact ⟨-1, rfl, .inr ⟨HR.out, rfl⟩, hbw⟩
          · go_wp2
            go_ret
            exact ⟨-1, rfl, .inr ⟨HR.out, rfl⟩, hbw⟩

set_option maxHeartbeats 400000 in
/-- The model's check of a term: right, at most 8 deep, at most 300 in all. -/
theorem specTermOk_any (d : Nat) (k n : Int) (s : ByteArray) (l : Value) (ts : List (Tm d)) (w : World) (hr : RdL d w l ts) (hw : WfL d ts) (hs : s.size ≤ 9223372036854775807) :
    Calls Try.prog 10 #[.agg #[.int .i64 k, .int .i64 n, .string s, l]] w fun e w' => ∃ b : Bool, e = .returned (.bool b) ∧ (b = true ↔ Right d k n s ts 8 300) ∧ Below w.heap.size w w' := by
  have hA : Below w.heap.size w (w.alloc (.cells #[.int .i64 k, .int .i64 n, .string s, l] 29)) := (Below.refl _ _).alloc (Nat.le_refl _) _
  obtain ⟨a, c, e⟩ := hr.len
  have hC := specLook_any d k n s l ts 8 300 _ (hr.later hA) hw hs (by omega) (by omega) (by omega) (by omega)
  rw [e] at hC hA ⊢
  clear hr
  go_enter Try.func10, Try.ntmps10
  go_wp2_with fail
  refine hC.mono ?_
  clear hC
  rintro e w1 ⟨r, rfl, hr, hB⟩
  have hb2 : Below w.heap.size w w1 := hA.trans (hB.mono (by simp))
  clear hA hB
  rcases hr with ⟨r1, r2⟩ | ⟨r1, r2⟩
  · have h0 : 0 ≤ r := by have := r1.2.2.2; omega
    have HR : Hid (Right d k n s ts 8 300) := r1
    clear r1 r2
    go_wp2
    go_ret
    exact ⟨_, rfl, by simp [HR.out], hb2⟩
  · have HR : Hid (¬ Right d k n s ts 8 300) := r1
    subst r2
    clear r1
    go_wp2
    go_ret
    exact ⟨_, rfl, by simp [HR.out], hb2⟩

end Go.Proofs.Ytjdhkhpdhblhbaa

/- A region that draws its order, whose operations only read and whose callees leave what was there: one walk. -/
namespace Go.Proofs.Ytjdhkhpdhblhbaa
open Go.RowKit

/-- A world behind this one. -/
structure After (w : World) where
  now : World
  bel : Below w.heap.size w now

theorem After.some (w : World) : Nonempty (After w) := ⟨⟨w, Below.refl _ _⟩⟩

theorem wp_region_after {P : Program} {id : Nat} {Q : Exit → Act → World → Prop} {a : Act} {w : World} {l : List Oper} (hm : P.follows .mixedOrders = true) (hB : Region.lexB .any l.toArray = true)
    (h : wpQuiet P l.toArray (fun w' => ∃ n : After w, w' = n.now) (fun a' => ∀ w', (∃ n : After w, w' = n.now) → Q .normal a' w') l a) : (Code.region id l.toArray true).wp P Q a w :=
  wp_region_quiet (C := fun w' => ∃ n : After w, w' = n.now) hm hB ⟨⟨_, (Below.refl _ _).drew⟩, rfl⟩ (by simpa using h)

theorem calls_after {P : Program} {f : FuncId} {args : Array Value} {w : World} {n : After w} {v : Value}
    (h : Calls P f args n.now fun e w' => e = .returned v ∧ Below n.now.heap.size n.now w') : Calls P f args n.now fun e w'' => e = .returned v ∧ ∃ m : After w, w'' = m.now :=
  h.mono fun _ w' ⟨he, hb⟩ => ⟨he, ⟨w', n.bel.trans (hb.mono n.bel.size)⟩, rfl⟩

theorem After.cell {w : World} {a : Addr} {v : Value} (h : w.cell? a = .some v) (n : After w) : n.now.cell? a = .some v := cell_later n.bel h

end Go.Proofs.Ytjdhkhpdhblhbaa

/- Which of two terms is less, and that the model's comparison tells it. -/
namespace Go.Proofs.Ytjdhkhpdhblhbaa
open Go.RowKit
set_option linter.unusedVariables false

/-- The order of lists by the first that are unlike, then by how many. -/
def ltList {α : Type} (lt : α → α → Prop) : List α → List α → Prop
  | [], [] => False
  | [], _ :: _ => True
  | _ :: _, [] => False
  | a :: xs, b :: zs => (a = b ∧ ltList lt xs zs) ∨ (a ≠ b ∧ lt a b)

def BLt (s s' : ByteArray) : Prop := Op.bytesLess s.toList s'.toList = true

/-- The order of terms. -/
def Lt : (d : Nat) → Tm d → Tm d → Prop
  | 0, _, _ => False
  | d + 1, a, b => (a.K ≠ b.K ∧ a.K < b.K) ∨ (a.K = b.K ∧ (((a.K = 1 ∨ a.K = 3) ∧ a.N < b.N) ∨ (a.K = 2 ∧ BLt a.S b.S) ∨ ((a.K = 4 ∧ a.L.length ≠ b.L.length) ∧ a.L.length < b.L.length) ∨
      ((¬ (a.K = 1 ∨ a.K = 3) ∧ ¬ a.K = 2 ∧ ¬ (a.K = 4 ∧ a.L.length ≠ b.L.length)) ∧ ltList (Lt d) a.L b.L)))

theorem ltList_drop {α : Type} {lt : α → α → Prop} : ∀ (j : Nat) (xs zs : List α), j ≤ xs.length → j ≤ zs.length → (∀ m, m < j → xs[m]? = zs[m]?) → (ltList lt xs zs ↔ ltList lt (xs.drop j) (zs.drop j)) := by
  intro j
  induction j with
  | zero => intro xs zs _ _ _; simp
  | succ j ih =>
    intro xs zs h1 h2 h
    cases xs with
    | nil => simp at h1
    | cons a xs =>
      cases zs with
      | nil => simp at h2
      | cons b zs =>
        have e : a = b := by have := h 0 (by omega); simpa using this
        subst e
        rw [List.drop_succ_cons, List.drop_succ_cons, ← ih xs zs (by simpa using h1) (by simpa using h2) fun m hm => by have := h (m + 1) (by omega); simpa using this]
        show (a = a ∧ _) ∨ (a ≠ a ∧ _) ↔ _
        simp

theorem ltList_at {α : Type} {lt : α → α → Prop} {xs zs : List α} {j : Nat} {a b : α} (h1 : xs[j]? = some a) (h2 : zs[j]? = some b) (h : ∀ m, m < j → xs[m]? = zs[m]?) (hne : a ≠ b) : ltList lt xs zs ↔ lt a b := by
  have l1 := (List.getElem?_eq_some_iff.1 h1).1
  have l2 := (List.getElem?_eq_some_iff.1 h2).1
  have e1 := (List.getElem?_eq_some_iff.1 h1).2
  have e2 := (List.getElem?_eq_some_iff.1 h2).2
  rw [ltList_drop j xs zs (by omega) (by omega) h, List.drop_eq_getElem_cons l1, List.drop_eq_getElem_cons l2, e1, e2]
  show (a = b ∧ _) ∨ (a ≠ b ∧ _) ↔ _
  simp [hne]

theorem ltList_end {α : Type} {lt : α → α → Prop} {xs zs : List α} {j : Nat} (h1 : j ≤ xs.length) (h2 : j ≤ zs.length) (he : j = xs.length ∨ j = zs.length) (h : ∀ m, m < j → xs[m]? = zs[m]?) : ltList lt xs zs ↔ xs.length < zs.length := by
  rw [ltList_drop j xs zs h1 h2 h]
  rcases he with rfl | rfl
  · rw [List.drop_length]
    cases hb : zs.drop xs.length with
    | nil =>
      have := List.drop_eq_nil_iff.1 hb
      exact ⟨fun h => absurd h (by show ¬ False; simp), fun h => by omega⟩
    | cons b r =>
      have : xs.length < zs.length := Nat.lt_of_not_le fun hn => by rw [List.drop_eq_nil_of_le hn] at hb; cases hb
      exact ⟨fun _ => this, fun _ => trivial⟩
  · rw [List.drop_length]
    cases ha : xs.drop zs.length with
    | nil => exact ⟨fun h => absurd h (by show ¬ False; simp), fun h => by omega⟩
    | cons a r => exact ⟨fun h => absurd h (by show ¬ False; simp), fun h => by omega⟩

/-- A term of its four fields. -/
def mk {d : Nat} (k n : Int) (s : ByteArray) (ts : List (Tm d)) : Tm (d + 1) := (k, n, s, ts)

theorem Tm.eta {d : Nat} (t : Tm (d + 1)) : mk t.K t.N t.S t.L = t := rfl

def LessC (f d : Nat) : Prop := ∀ (k n : Int) (s : ByteArray) (l : Value) (ts : List (Tm d)) (k' n' : Int) (s' : ByteArray) (l' : Value) (ts' : List (Tm d)) (w : World), RdL d w l ts → RdL d w l' ts' → WfL d ts → WfL d ts' →
  Calls Try.prog f #[.agg #[.int .i64 k, .int .i64 n, .string s, l], .agg #[.int .i64 k', .int .i64 n', .string s', l']] w fun e w' => ∃ b : Bool, e = .returned (.bool b) ∧ (b = true ↔ Lt (d + 1) (mk k n s ts) (mk k' n' s' ts')) ∧ Below w.heap.size w w'

theorem lt_k {d : Nat} {k n : Int} {s : ByteArray} {ts : List (Tm d)} {k' n' : Int} {s' : ByteArray} {ts' : List (Tm d)} (h : k ≠ k') : Lt (d + 1) (mk k n s ts) (mk k' n' s' ts') ↔ k < k' :=
  ⟨fun h1 => by rcases h1 with h1 | h1; exact h1.2; exact absurd h1.1 h, fun h1 => .inl ⟨h, h1⟩⟩
theorem lt_n {d : Nat} {k n : Int} {s : ByteArray} {ts : List (Tm d)} {n' : Int} {s' : ByteArray} {ts' : List (Tm d)} (h : k = 1 ∨ k = 3) : Lt (d + 1) (mk k n s ts) (mk k n' s' ts') ↔ n < n' := by
  constructor
  · intro h1
    rcases h1 with h1 | ⟨_, h1 | h1 | h1 | h1⟩
    · exact absurd rfl h1.1
    · exact h1.2
    · have : k = 2 := h1.1; omega
    · have : k = 4 := h1.1.1; omega
    · exact absurd h h1.1.1
  · exact fun h1 => .inr ⟨rfl, .inl ⟨h, h1⟩⟩
theorem lt_s {d : Nat} {k n : Int} {s : ByteArray} {ts : List (Tm d)} {n' : Int} {s' : ByteArray} {ts' : List (Tm d)} (h : k = 2) : Lt (d + 1) (mk k n s ts) (mk k n' s' ts') ↔ BLt s s' := by
  constructor
  · intro h1
    rcases h1 with h1 | ⟨_, h1 | h1 | h1 | h1⟩
    · exact absurd rfl h1.1
    · have h2 : k = 1 ∨ k = 3 := h1.1; omega
    · exact h1.2
    · have : k = 4 := h1.1.1; omega
    · exact absurd h h1.1.2.1
  · exact fun h1 => .inr ⟨rfl, .inr (.inl ⟨h, h1⟩)⟩
theorem lt_l {d : Nat} {k n : Int} {s : ByteArray} {ts : List (Tm d)} {n' : Int} {s' : ByteArray} {ts' : List (Tm d)} (h : k = 4 ∧ ts.length ≠ ts'.length) : Lt (d + 1) (mk k n s ts) (mk k n' s' ts') ↔ ts.length < ts'.length := by
  constructor
  · intro h1
    rcases h1 with h1 | ⟨_, h1 | h1 | h1 | h1⟩
    · exact absurd rfl h1.1
    · have h2 : k = 1 ∨ k = 3 := h1.1; omega
    · have : k = 2 := h1.1; omega
    · exact h1.2
    · exact absurd h h1.1.2.2
  · exact fun h1 => .inr ⟨rfl, .inr (.inr (.inl ⟨h, h1⟩))⟩
theorem lt_e {d : Nat} {k n : Int} {s : ByteArray} {ts : List (Tm d)} {n' : Int} {s' : ByteArray} {ts' : List (Tm d)} (h1 : ¬ (k = 1 ∨ k = 3)) (h2 : ¬ k = 2) (h3 : ¬ (k = 4 ∧ ts.length ≠ ts'.length)) : Lt (d + 1) (mk k n s ts) (mk k n' s' ts') ↔ ltList (Lt d) ts ts' := by
  constructor
  · intro h
    rcases h with h | ⟨_, h | h | h | h⟩
    · exact absurd rfl h.1
    · exact absurd h.1 h1
    · exact absurd h.1 h2
    · exact absurd h.1 h3
    · exact h.2
  · exact fun h => .inr ⟨rfl, .inr (.inr (.inr ⟨⟨h1, h2, h3⟩, h⟩))⟩

end Go.Proofs.Ytjdhkhpdhblhbaa
