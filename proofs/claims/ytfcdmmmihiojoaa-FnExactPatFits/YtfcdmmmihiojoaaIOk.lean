/- The program's checks of an atom and of a term's shape: they tell what is right. -/
import Derived.Test.YtfcdmmmihiojoaaLook
import Derived.Test.YtfcdmmmihiojoaaForm
namespace Go.Proofs.Ytfcdmmmihiojoaa
open Go.RowKit
set_option linter.unusedVariables false

theorem isSmall_any (x : Int) (w : World) :
    Calls Try.prog 24 #[.int .u8 x] w fun e w' => e = .returned (.bool (decide (97 ≤ x ∧ x ≤ 122))) ∧ w = w' := by
  by_cases h1 : 97 ≤ x
  · by_cases h2 : x ≤ 122
    · have hd : decide (97 ≤ x ∧ x ≤ 122) = true := by simp [h1, h2]
      rw [hd]
      go_enter Try.func24, Try.ntmps24
      go_wp2
      go_ret
      exact ⟨rfl, rfl⟩
    · have hd : decide (97 ≤ x ∧ x ≤ 122) = false := by simp; omega
      rw [hd]
      go_enter Try.func24, Try.ntmps24
      go_wp2
      go_ret
      exact ⟨rfl, rfl⟩
  · have hd : decide (97 ≤ x ∧ x ≤ 122) = false := by simp; omega
    rw [hd]
    go_enter Try.func24, Try.ntmps24
    go_wp2
    go_ret
    exact ⟨rfl, rfl⟩

theorem isDigit_any (x : Int) (w : World) :
    Calls Try.prog 26 #[.int .u8 x] w fun e w' => e = .returned (.bool (decide (48 ≤ x ∧ x ≤ 57))) ∧ w = w' := by
  by_cases h1 : 48 ≤ x
  · by_cases h2 : x ≤ 57
    · have hd : decide (48 ≤ x ∧ x ≤ 57) = true := by simp [h1, h2]
      rw [hd]
      go_enter Try.func26, Try.ntmps26
      go_wp2
      go_ret
      exact ⟨rfl, rfl⟩
    · have hd : decide (48 ≤ x ∧ x ≤ 57) = false := by simp; omega
      rw [hd]
      go_enter Try.func26, Try.ntmps26
      go_wp2
      go_ret
      exact ⟨rfl, rfl⟩
  · have hd : decide (48 ≤ x ∧ x ≤ 57) = false := by simp; omega
    rw [hd]
    go_enter Try.func26, Try.ntmps26
    go_wp2
    go_ret
    exact ⟨rfl, rfl⟩

/-- A byte that an atom may have behind its first. -/
def atB (x : Int) : Bool := decide (97 ≤ x ∧ x ≤ 122) || decide (48 ≤ x ∧ x ≤ 57) || x == 95

theorem isAtomByte_any (x : Int) (w : World) :
    Calls Try.prog 25 #[.int .u8 x] w fun e w' => e = .returned (.bool (atB x)) ∧ w = w' := by
  have hL := isSmall_any x w
  have hL2 := isDigit_any x w
  by_cases h1 : 97 ≤ x ∧ x ≤ 122
  · rw [show decide (97 ≤ x ∧ x ≤ 122) = true from by simp [h1]] at hL
    rw [show atB x = true from by simp [atB, h1]]
    clear h1 hL2
    go_enter Try.func25, Try.ntmps25
    go_wp2_with fail
    refine hL.mono ?_
    clear hL
    rintro e w' ⟨rfl, rfl⟩
    go_wp2_with fail
    go_ret
    exact ⟨rfl, rfl⟩
  rw [show decide (97 ≤ x ∧ x ≤ 122) = false from by simp; omega] at hL
  by_cases h2 : 48 ≤ x ∧ x ≤ 57
  · rw [show decide (48 ≤ x ∧ x ≤ 57) = true from by simp [h2]] at hL2
    rw [show atB x = true from by simp [atB, h2]]
    clear h1 h2
    go_enter Try.func25, Try.ntmps25
    go_wp2_with fail
    refine hL.mono ?_
    clear hL
    rintro e w' ⟨rfl, rfl⟩
    go_wp2_with fail
    refine hL2.mono ?_
    clear hL2
    rintro e w' ⟨rfl, rfl⟩
    go_wp2_with fail
    go_ret
    exact ⟨rfl, rfl⟩
  rw [show decide (48 ≤ x ∧ x ≤ 57) = false from by simp; omega] at hL2
  have hb : atB x = (x == 95) := by
    have e1 : decide (97 ≤ x ∧ x ≤ 122) = false := by simp; omega
    have e2 : decide (48 ≤ x ∧ x ≤ 57) = false := by simp; omega
    simp only [atB, e1, e2, Bool.false_or]
  rw [hb]
  clear h1 h2 hb
  go_enter Try.func25, Try.ntmps25
  go_wp2_with fail
  refine hL.mono ?_
  clear hL
  rintro e w' ⟨rfl, rfl⟩
  go_wp2_with fail
  refine hL2.mono ?_
  clear hL2
  rintro e w' ⟨rfl, rfl⟩
  go_wp2_with fail
  go_ret
  exact ⟨rfl, rfl⟩

theorem atB_iff (x : Int) : atB x = true ↔ (97 ≤ x ∧ x ≤ 122) ∨ (48 ≤ x ∧ x ≤ 57) ∨ x = 95 := by
  simp only [atB, Bool.or_eq_true, decide_eq_true_eq, beq_iff_eq, or_assoc]

set_option maxHeartbeats 1000000 in
theorem atomOk_any (s : ByteArray) (w : World) (hs : s.size ≤ 9223372036854775807) :
    Calls Try.prog 23 #[.string s] w fun e w' => ∃ b : Bool, e = .returned (.bool b) ∧ (b = true ↔ AtomP s) ∧ w = w' := by
  by_cases h0 : s.size < 1
  · have HF : Hid (¬ AtomP s) := fun h => by have := h.2.1; omega
    have hz : s.size = 0 := by omega
    have hb : decide ((s.size : Int) < 1) = true := by rw [hz]; rfl
    clear h0 hs hz
    go_enter Try.func23, Try.ntmps23
    go_wp2_with fail
    go_ret
    exact ⟨false, rfl, iff_no HF.out, rfl⟩
  by_cases h1 : s.size ≤ 20
  case neg =>
    have HF : Hid (¬ AtomP s) := fun h => by have := h.2.2; omega
    have hb : decide ((20 : Int) < s.size) = true := by simp; omega
    have hb2 : decide ((s.size : Int) < 1) = false := by simp; omega
    clear h0 h1 hs
    go_enter Try.func23, Try.ntmps23
    go_wp2
    go_ret
    exact ⟨false, rfl, iff_no HF.out, rfl⟩
  have hlt0 : 0 < s.size := by omega
  obtain ⟨x0, hx0⟩ : ∃ x, (s[0].toNat : Int) = x := ⟨_, rfl⟩
  have HX0 : Hid ((s[0].toNat : Int) = x0) := hx0
  have hL := isSmall_any x0 w
  by_cases hsm0 : 97 ≤ x0 ∧ x0 ≤ 122
  case neg =>
    rw [show decide (97 ≤ x0 ∧ x0 ≤ 122) = false from by simp; omega] at hL
    have HF : Hid (¬ AtomP s) := fun h => by
      have := h.1 0 hlt0
      rw [HX0.out] at this
      rcases this with h | h
      · exact hsm0 h
      · exact h.1 rfl
    clear hsm0
    go_enter Try.func23, Try.ntmps23
    go_wp2_with fail
    refine hL.mono ?_
    clear hL
    rintro e w' ⟨rfl, rfl⟩
    go_wp2
    go_ret
    exact ⟨false, rfl, iff_no HF.out, rfl⟩
  rw [show decide (97 ≤ x0 ∧ x0 ≤ 122) = true from by simp [hsm0]] at hL
  have HS0 : Hid (97 ≤ x0 ∧ x0 ≤ 122) := hsm0
  clear hsm0
  go_enter Try.func23, Try.ntmps23
  go_wp2_with fail
  refine hL.mono ?_
  clear hL
  rintro e w' ⟨rfl, rfl⟩
  clear hx0
  go_wp2_with fail
  go_loop [20] (fun i => ∃ k : Nat, k ≤ s.size ∧ i = .int .i64 k ∧ Hid (∀ (j : Nat) (h : j < s.size), j < k → ChOk j (s[j].toNat : Int))) (fun i => s.size - (intOf i).toNat)
  case atStart => exact ⟨0, Nat.zero_le _, rfl, fun j _ hj => by omega⟩
  case round =>
    obtain ⟨k, hk, rfl, HD⟩ := hrel
    by_cases hlt : k < s.size
    · obtain ⟨x, hx⟩ : ∃ x, (s[k].toNat : Int) = x := ⟨_, rfl⟩
      have HX : Hid ((s[k].toNat : Int) = x) := hx
      have HN : Hid (ChOk k x → ∀ (j : Nat) (h : j < s.size), j < k + 1 → ChOk j (s[j].toNat : Int)) := fun hc j hj hjk => by
        by_cases h : j < k
        · exact HD.out j hj h
        · obtain rfl : j = k := by omega
          rw [HX.out]; exact hc
      have HF : Hid (¬ ChOk k x → ¬ AtomP s) := fun hc ha => hc (by rw [← HX.out]; exact ha.1 k hlt)
      have HZ : Hid (k = 0 → 97 ≤ x ∧ x ≤ 122) := fun h => by subst h; rw [← HX.out, HX0.out]; exact HS0.out
      have hL := isAtomByte_any x w
      by_cases hat : atB x = true
      · rw [hat] at hL
        have HRR : Hid (∀ (j : Nat) (h : j < s.size), j < k + 1 → ChOk j (s[j].toNat : Int)) := HN.out (by
          by_cases hk0 : k = 0
          · exact .inl (HZ.out hk0)
          · rcases (atB_iff x).1 hat with h | h
            · exact .inl h
            · exact .inr ⟨hk0, h⟩)
        clear HN HF HX HD HZ hat
        go_wp2_with fail
        refine hL.mono ?_
        clear hL
        rintro e w' ⟨rfl, rfl⟩
        go_wp2_with fail
        go_round
        case rel => exact ⟨k + 1, by omega, by go_num, HRR⟩
        case measure => simp [intOf]; omega
      · have hatf : atB x = false := by simpa using hat
        rw [hatf] at hL
        have HR : Hid (¬ AtomP s) := HF.out (fun h => hat ((atB_iff x).2 (by rcases h with h | h; exact .inl h; exact .inr h.2)))
        clear HN HF HX HD HZ hat hatf
        go_wp2_with fail
        refine hL.mono ?_
        clear hL
        rintro e w' ⟨rfl, rfl⟩
        go_wp2_with fail
        go_ret
        exact ⟨false, rfl, iff_no HR.out, rfl⟩
    · have HF : Hid (AtomP s) := ⟨fun j hj => HD.out j hj (by omega), by omega, h1⟩
      have hb : decide ((k : Int) < s.size) = false := by simp; omega
      clear hb HD
      go_wp2_with fail
      go_ret
      exact .inr ⟨rfl, HF.out, rfl⟩

end Go.Proofs.Ytfcdmmmihiojoaa
