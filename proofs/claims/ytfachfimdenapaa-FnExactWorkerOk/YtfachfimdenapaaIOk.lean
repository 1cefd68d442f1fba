/- The program's checks of an atom and of a term's shape: they tell what is right. -/
import Derived.Test.YtfachfimdenapaaLook
import Derived.Test.YtfachfimdenapaaForm
namespace Go.Proofs.Ytfachfimdenapaa
open Go.RowKit
set_option linter.unusedVariables false

theorem isSmall_any (x : Int) (w : World) :
    Calls Try.prog 46 #[.int .u8 x] w fun e w' => e = .returned (.bool (decide (97 ≤ x ∧ x ≤ 122))) ∧ w = w' := by
  by_cases h1 : 97 ≤ x
  · by_cases h2 : x ≤ 122
    · have hd : decide (97 ≤ x ∧ x ≤ 122) = true := by simp [h1, h2]
      rw [hd]
      go_enter Try.func46, Try.ntmps46
      go_wp2
      go_ret
      exact ⟨rfl, rfl⟩
    · have hd : decide (97 ≤ x ∧ x ≤ 122) = false := by simp; omega
      rw [hd]
      go_enter Try.func46, Try.ntmps46
      go_wp2
      go_ret
      exact ⟨rfl, rfl⟩
  · have hd : decide (97 ≤ x ∧ x ≤ 122) = false := by simp; omega
    rw [hd]
    go_enter Try.func46, Try.ntmps46
    go_wp2
    go_ret
    exact ⟨rfl, rfl⟩

theorem isDigit_any (x : Int) (w : World) :
    Calls Try.prog 55 #[.int .u8 x] w fun e w' => e = .returned (.bool (decide (48 ≤ x ∧ x ≤ 57))) ∧ w = w' := by
  by_cases h1 : 48 ≤ x
  · by_cases h2 : x ≤ 57
    · have hd : decide (48 ≤ x ∧ x ≤ 57) = true := by simp [h1, h2]
      rw [hd]
      go_enter Try.func55, Try.ntmps55
      go_wp2
      go_ret
      exact ⟨rfl, rfl⟩
    · have hd : decide (48 ≤ x ∧ x ≤ 57) = false := by simp; omega
      rw [hd]
      go_enter Try.func55, Try.ntmps55
      go_wp2
      go_ret
      exact ⟨rfl, rfl⟩
  · have hd : decide (48 ≤ x ∧ x ≤ 57) = false := by simp; omega
    rw [hd]
    go_enter Try.func55, Try.ntmps55
    go_wp2
    go_ret
    exact ⟨rfl, rfl⟩

/-- A byte that an atom may have behind its first. -/
def atB (x : Int) : Bool := decide (97 ≤ x ∧ x ≤ 122) || decide (48 ≤ x ∧ x ≤ 57) || x == 95

theorem isAtomByte_any (x : Int) (w : World) :
    Calls Try.prog 47 #[.int .u8 x] w fun e w' => e = .returned (.bool (atB x)) ∧ w = w' := by
  have hL := isSmall_any x w
  have hL2 := isDigit_any x w
  by_cases h1 : 97 ≤ x ∧ x ≤ 122
  · rw [show decide (97 ≤ x ∧ x ≤ 122) = true from by simp [h1]] at hL
    rw [show atB x = true from by simp [atB, h1]]
    clear h1 hL2
    go_enter Try.func47, Try.ntmps47
    go_wp2_with fail
    refine hL.mono ?_
    clear hL
    rintro e w' ⟨rfl, rfl⟩
    go_wp2_with fail
    go_ret
    exact ⟨rfl, rfl⟩
  rw [show decide (97 ≤ x ∧ x ≤ 122) = false from by simp; omega] at hL
  by_cases h2 : 48 ≤ x ∧ x ≤ 57
  · rw [show decide (48 ≤ x ∧ x ≤ 57) = true from by simp [h2]] at hL2
    rw [show atB x = true from by simp [atB, h2]]
    clear h1 h2
    go_enter Try.func47, Try.ntmps47
    go_wp2_with fail
    refine hL.mono ?_
    clear hL
    rintro e w' ⟨rfl, rfl⟩
    go_wp2_with fail
    refine hL2.mono ?_
    clear hL2
    rintro e w' ⟨rfl, rfl⟩
    go_wp2_with fail
    go_ret
    exact ⟨rfl, rfl⟩
  rw [show decide (48 ≤ x ∧ x ≤ 57) = false from by simp; omega] at hL2
  have hb : atB x = (x == 95) := by
    have e1 : decide (97 ≤ x ∧ x ≤ 122) = false := by simp; omega
    have e2 : decide (48 ≤ x ∧ x ≤ 57) = false := by simp; omega
    simp only [atB, e1, e2, Bool.false_or]
  rw [hb]
  clear h1 h2 hb
  go_enter Try.func47, Try.ntmps47
  go_wp2_with fail
  refine hL.mono ?_
  clear hL
  rintro e w' ⟨rfl, rfl⟩
  go_wp2_with fail
  refine hL2.mono ?_
  clear hL2
  rintro e w' ⟨rfl, rfl⟩
  go_wp2_with fail
  go_ret
  exact ⟨rfl, rfl⟩

theorem atB_iff (x : Int) : atB x = true ↔ (97 ≤ x ∧ x ≤ 122) ∨ (48 ≤ x ∧ x ≤ 57) ∨ x = 95 := by
  simp only [atB, Bool.or_eq_true, decide_eq_true_eq, beq_iff_eq, or_assoc]

set_option maxHeartbeats 1000000 in
theorem atomOk_any (s : ByteArray) (w : World) (hs : s.size ≤ 9223372036854775807) :
    Calls Try.prog 29 #[.string s] w fun e w' => ∃ b : Bool, e = .returned (.bool b) ∧ (b = true ↔ AtomP s) ∧ w = w' := by
  by_cases h0 : s.size < 1
  · have HF : Hid (¬ AtomP s) := fun h => by have := h.2.1; omega
    have hz : s.size = 0 := by omega
    have hb : decide ((s.size : Int) < 1) = true := by rw [hz]; rfl
    clear h0 hs hz
    go_enter Try.func29, Try.ntmps29
    go_wp2_with fail
    go_ret
    exact ⟨false, rfl, iff_no HF.out, rfl⟩
  by_cases h1 : s.size ≤ 20
  case neg =>
    have HF : Hid (¬ AtomP s) := fun h => by have := h.2.2; omega
    have hb : decide ((20 : Int) < s.size) = true := by simp; omega
    have hb2 : decide ((s.size : Int) < 1) = false := by simp; omega
    clear h0 h1 hs
    go_enter Try.func29, Try.ntmps29
    go_wp2
    go_ret
    exact ⟨false, rfl, iff_no HF.out, rfl⟩
  have hlt0 : 0 < s.size := by omega
  obtain ⟨x0, hx0⟩ : ∃ x, (s[0].toNat : Int) = x := ⟨_, rfl⟩
  have HX0 : Hid ((s[0].toNat : Int) = x0) := hx0
  have hL := isSmall_any x0 w
  by_cases hsm0 : 97 ≤ x0 ∧ x0 ≤ 122
  case neg =>
    rw [show decide (97 ≤ x0 ∧ x0 ≤ 122) = false from by simp; omega] at hL
    have HF : Hid (¬ AtomP s) := fun h => by
      have := h.1 0 hlt0
      rw [HX0.out] at this
      rcases this with h | h
      · exact hsm0 h
      · exact h.1 rfl
    clear hsm0
    go_enter Try.func29, Try.ntmps29
    go_wp2_with fail
    refine hL.mono ?_
    clear hL
    rintro e w' ⟨rfl, rfl⟩
    go_wp2
    go_ret
    exact ⟨false, rfl, iff_no HF.out, rfl⟩
  rw [show decide (97 ≤ x0 ∧ x0 ≤ 122) = true from by simp [hsm0]] at hL
  have HS0 : Hid (97 ≤ x0 ∧ x0 ≤ 122) := hsm0
  clear hsm0
  go_enter Try.func29, Try.ntmps29
  go_wp2_with fail
  refine hL.mono ?_
  clear hL
  rintro e w' ⟨rfl, rfl⟩
  clear hx0
  go_wp2_with fail
  go_loop [20] (fun i => ∃ k : Nat, k ≤ s.size ∧ i = .int .i64 k ∧ Hid (∀ (j : Nat) (h : j < s.size), j < k → ChOk j (s[j].toNat : Int))) (fun i => s.size - (intOf i).toNat)
  case atStart => exact ⟨0, Nat.zero_le _, rfl, fun j _ hj => by omega⟩
  case round =>
    obtain ⟨k, hk, rfl, HD⟩ := hrel
    by_cases hlt : k < s.size
    · obtain ⟨x, hx⟩ : ∃ x, (s[k].toNat : Int) = x := ⟨_, rfl⟩
      have HX : Hid ((s[k].toNat : Int) = x) := hx
      have HN : Hid (ChOk k x → ∀ (j : Nat) (h : j < s.size), j < k + 1 → ChOk j (s[j].toNat : Int)) := fun hc j hj hjk => by
        by_cases h : j < k
        · exact HD.out j hj h
        · obtain rfl : j = k := by omega
          rw [HX.out]; exact hc
      have HF : Hid (¬ ChOk k x → ¬ AtomP s) := fun hc ha => hc (by rw [← HX.out]; exact ha.1 k hlt)
      have HZ : Hid (k = 0 → 97 ≤ x ∧ x ≤ 122) := fun h => by subst h; rw [← HX.out, HX0.out]; exact HS0.out
      have hL := isAtomByte_any x w
      by_cases hat : atB x = true
      · rw [hat] at hL
        have HRR : Hid (∀ (j : Nat) (h : j < s.size), j < k + 1 → ChOk j (s[j].toNat : Int)) := HN.out (by
          by_cases hk0 : k = 0
          · exact .inl (HZ.out hk0)
          · rcases (atB_iff x).1 hat with h | h
            · exact .inl h
            · exact .inr ⟨hk0, h⟩)
        clear HN HF HX HD HZ hat
        go_wp2_with fail
        refine hL.mono ?_
        clear hL
        rintro e w' ⟨rfl, rfl⟩
        go_wp2_with fail
        go_round
        case rel => exact ⟨k + 1, by omega, by go_num, HRR⟩
        case measure => simp [intOf]; omega
      · have hatf : atB x = false := by simpa using hat
        rw [hatf] at hL
        have HR : Hid (¬ AtomP s) := HF.out (fun h => hat ((atB_iff x).2 (by rcases h with h | h; exact .inl h; exact .inr h.2)))
        clear HN HF HX HD HZ hat hatf
        go_wp2_with fail
        refine hL.mono ?_
        clear hL
        rintro e w' ⟨rfl, rfl⟩
        go_wp2_with fail
        go_ret
        exact ⟨false, rfl, iff_no HR.out, rfl⟩
    · have HF : Hid (AtomP s) := ⟨fun j hj => HD.out j hj (by omega), by omega, h1⟩
      have hb : decide ((k : Int) < s.size) = false := by simp; omega
      clear hb HD
      go_wp2_with fail
      go_ret
      exact .inr ⟨rfl, HF.out, rfl⟩

/-- What a term is within. -/
def formV (k n : Int) (s : ByteArray) (l : Value) : Value :=
  if k = 1 then .iface 83 (.int .i64 n) else if k = 2 then .iface 84 (.string s) else if k = 3 then .iface 85 (.int .i64 n)
  else if k = 4 then .iface 86 l else if k = 5 then .iface 87 l else .nilIface

set_option maxHeartbeats 1000000 in
theorem formOf_any (k n : Int) (s : ByteArray) (a : Option Addr) (len c : Nat) (w : World) :
    Calls Try.prog 59 #[.agg #[.int .i64 k, .int .i64 n, .string s, .slice a len c]] w fun e w' => e = .returned (formV k n s (.slice a len c)) ∧ Below w.heap.size w w' := by
  have hA : Below w.heap.size w (w.alloc (.cells #[.int .i64 k, .int .i64 n, .string s, .slice a len c] 31)) := (Below.refl _ _).alloc (Nat.le_refl _) _
  by_cases h1 : k = 1
  · subst h1
    go_enter Try.func59, Try.ntmps59
    go_wp2_with fail
    go_ret
    exact ⟨rfl, hA⟩
  by_cases h2 : k = 2
  · subst h2
    go_enter Try.func59, Try.ntmps59
    go_wp2_with fail
    go_ret
    exact ⟨rfl, hA⟩
  by_cases h3 : k = 3
  · subst h3
    go_enter Try.func59, Try.ntmps59
    go_wp2_with fail
    go_ret
    exact ⟨rfl, hA⟩
  by_cases h4 : k = 4
  · subst h4
    go_enter Try.func59, Try.ntmps59
    go_wp2_with fail
    go_ret
    exact ⟨rfl, hA⟩
  by_cases h5 : k = 5
  · subst h5
    go_enter Try.func59, Try.ntmps59
    go_wp2_with fail
    go_ret
    exact ⟨rfl, hA⟩
  have HF : Hid (formV k n s (.slice a len c) = .nilIface) := by
    show _ = _
    unfold formV
    rw [if_neg h1, if_neg h2, if_neg h3, if_neg h4, if_neg h5]
  have e1 : (k == 1) = false := by simp [h1]
  have e2 : (k == 2) = false := by simp [h2]
  have e3 : (k == 3) = false := by simp [h3]
  have e4 : (k == 4) = false := by simp [h4]
  have e5 : (k == 5) = false := by simp [h5]
  rw [HF.out]
  clear h1 h2 h3 h4 h5 HF
  go_enter Try.func59, Try.ntmps59
  go_wp2_with fail
  go_ret
  exact ⟨rfl, hA⟩

set_option maxHeartbeats 2000000 in
theorem fieldsFit_1 (n : Int) (s : ByteArray) (a : Option Addr) (len c : Nat) (w : World) (hs : s.size ≤ 9223372036854775807) (hlen : len ≤ 9223372036854775807) :
    Calls Try.prog 56 #[.agg #[.int .i64 1, .int .i64 n, .string s, .slice a len c]] w fun e w' => ∃ b : Bool, e = .returned (.bool b) ∧ (b = true ↔ Shape 1 n s len) ∧ Below w.heap.size w w' := by
  have hF : ∀ w, Calls Try.prog 59 #[.agg #[.int .i64 1, .int .i64 n, .string s, .slice a len c]] w fun e w' => e = .returned (.iface 83 (.int .i64 n)) ∧ Below w.heap.size w w' := formOf_any 1 n s a len c
  rw [shape1]
  obtain ⟨W, hW⟩ : ∃ W, W = w.alloc (.cells #[.int .i64 1, .int .i64 n, .string s, .slice a len c] 31) := ⟨_, rfl⟩
  have hA : Below w.heap.size w W := by rw [hW]; exact (Below.refl _ _).alloc (Nat.le_refl _) _
  have hWz : W.heap.size = w.heap.size + 1 := by rw [hW]; simp
  have hB1 : W.heap[w.heap.size]? = some (.cells #[.int .i64 1, .int .i64 n, .string s, .slice a len c] 31 (0, 0)) := by rw [hW]; exact heap_alloc_new w _
  have HW : Hid (W = _) := hW
  have hC := hF W
  rw [hW] at hC
  clear hW hF
  go_enter Try.func56, Try.ntmps56
  go_wp2_with fail
  refine hC.mono ?_
  clear hC
  rintro e w1 ⟨rfl, hB⟩
  rw [← HW.out] at hB
  have hB2 : Below w.heap.size w w1 := hA.trans (hB.mono hA.size)
  have c1 : w1.cell? ⟨w.heap.size, 1, none⟩ = some (.int .i64 n) := by rw [cell_of_row w1 _ 1 _ _ _ ((hB.block _ (by omega)).trans hB1)]; rfl
  have c2 : w1.cell? ⟨w.heap.size, 2, none⟩ = some (.string s) := by rw [cell_of_row w1 _ 2 _ _ _ ((hB.block _ (by omega)).trans hB1)]; rfl
  have c3 : w1.cell? ⟨w.heap.size, 3, none⟩ = some (.slice a len c) := by rw [cell_of_row w1 _ 3 _ _ _ ((hB.block _ (by omega)).trans hB1)]; rfl
  clear hB HW hA hB1
  by_cases ha : -1000000000000 ≤ n
  case neg =>
    have HF : Hid (¬ ((-1000000000000 ≤ n ∧ n ≤ 1000000000000) ∧ s.size = 0 ∧ len = 0)) := fun h => ha h.1.1
    have hab : decide (-1000000000000 ≤ n) = false := by rw [decide_eq_false_iff_not]; exact ha
    clear ha
    go_wp2_with fail
    go_ret
    exact ⟨false, rfl, iff_no HF.out, hB2⟩
  have hab : decide (-1000000000000 ≤ n) = true := by rw [decide_eq_true_iff]; exact ha
  by_cases hb : n ≤ 1000000000000
  case neg =>
    have HF : Hid (¬ ((-1000000000000 ≤ n ∧ n ≤ 1000000000000) ∧ s.size = 0 ∧ len = 0)) := fun h => hb h.1.2
    have hbb : decide (n ≤ 1000000000000) = false := by rw [decide_eq_false_iff_not]; exact hb
    clear hb
    go_wp2_with fail
    go_ret
    exact ⟨false, rfl, iff_no HF.out, hB2⟩
  have hbb : decide (n ≤ 1000000000000) = true := by rw [decide_eq_true_iff]; exact hb
  by_cases hse : s.size = 0
  case neg =>
    have HF : Hid (¬ ((-1000000000000 ≤ n ∧ n ≤ 1000000000000) ∧ s.size = 0 ∧ len = 0)) := fun h => hse h.2.1
    have he := empty_no hse
    clear hse
    go_wp2_with fail
    go_ret
    exact ⟨false, rfl, iff_no HF.out, hB2⟩
  have he := (empty_iff s).2 hse
  by_cases hl0 : len = 0
  case neg =>
    have HF : Hid (¬ ((-1000000000000 ≤ n ∧ n ≤ 1000000000000) ∧ s.size = 0 ∧ len = 0)) := fun h => hl0 h.2.2
    have hlb : ((len : Int) == 0) = false := by simp [hl0]
    clear hl0
    go_wp2_with fail
    go_ret
    exact ⟨false, rfl, iff_no HF.out, hB2⟩
  have hlb : ((len : Int) == 0) = true := by simp [hl0]
  have HF : Hid ((-1000000000000 ≤ n ∧ n ≤ 1000000000000) ∧ s.size = 0 ∧ len = 0) := ⟨⟨ha, hb⟩, hse, hl0⟩
  clear ha hb hse hl0
  go_wp2_with fail
  go_ret
  exact ⟨true, rfl, iff_yes HF.out, hB2⟩

set_option maxHeartbeats 2000000 in
theorem fieldsFit_2 (n : Int) (s : ByteArray) (a : Option Addr) (len c : Nat) (w : World) (hs : s.size ≤ 9223372036854775807) (hlen : len ≤ 9223372036854775807) :
    Calls Try.prog 56 #[.agg #[.int .i64 2, .int .i64 n, .string s, .slice a len c]] w fun e w' => ∃ b : Bool, e = .returned (.bool b) ∧ (b = true ↔ Shape 2 n s len) ∧ Below w.heap.size w w' := by
  have hF : ∀ w, Calls Try.prog 59 #[.agg #[.int .i64 2, .int .i64 n, .string s, .slice a len c]] w fun e w' => e = .returned (.iface 84 (.string s)) ∧ Below w.heap.size w w' := formOf_any 2 n s a len c
  rw [shape2]
  obtain ⟨W, hW⟩ : ∃ W, W = w.alloc (.cells #[.int .i64 2, .int .i64 n, .string s, .slice a len c] 31) := ⟨_, rfl⟩
  have hA : Below w.heap.size w W := by rw [hW]; exact (Below.refl _ _).alloc (Nat.le_refl _) _
  have hWz : W.heap.size = w.heap.size + 1 := by rw [hW]; simp
  have hB1 : W.heap[w.heap.size]? = some (.cells #[.int .i64 2, .int .i64 n, .string s, .slice a len c] 31 (0, 0)) := by rw [hW]; exact heap_alloc_new w _
  have HW : Hid (W = _) := hW
  have hC := hF W
  rw [hW] at hC
  clear hW hF
  go_enter Try.func56, Try.ntmps56
  go_wp2_with fail
  refine hC.mono ?_
  clear hC
  rintro e w1 ⟨rfl, hB⟩
  rw [← HW.out] at hB
  have hB2 : Below w.heap.size w w1 := hA.trans (hB.mono hA.size)
  have c1 : w1.cell? ⟨w.heap.size, 1, none⟩ = some (.int .i64 n) := by rw [cell_of_row w1 _ 1 _ _ _ ((hB.block _ (by omega)).trans hB1)]; rfl
  have c2 : w1.cell? ⟨w.heap.size, 2, none⟩ = some (.string s) := by rw [cell_of_row w1 _ 2 _ _ _ ((hB.block _ (by omega)).trans hB1)]; rfl
  have c3 : w1.cell? ⟨w.heap.size, 3, none⟩ = some (.slice a len c) := by rw [cell_of_row w1 _ 3 _ _ _ ((hB.block _ (by omega)).trans hB1)]; rfl
  clear hB HW hA hB1
  have hL := atomOk_any s w1 hs
  go_wp2_with fail
  refine hL.mono ?_
  clear hL
  rintro e w' ⟨b, rfl, hb, rfl⟩
  cases b
  · have HF : Hid (¬ (AtomP s ∧ n = 0 ∧ len = 0)) := fun h => by have := hb.2 h.1; cases this
    clear hb
    go_wp2_with fail
    go_ret
    exact ⟨false, rfl, iff_no HF.out, hB2⟩
  have HA : Hid (AtomP s) := hb.1 rfl
  clear hb
  by_cases hn : n = 0
  case neg =>
    have HF : Hid (¬ (AtomP s ∧ n = 0 ∧ len = 0)) := fun h => hn h.2.1
    have hnb : (n == 0) = false := by simp [hn]
    clear hn
    go_wp2_with fail
    go_ret
    exact ⟨false, rfl, iff_no HF.out, hB2⟩
  have hnb : (n == 0) = true := by simp [hn]
  by_cases hl0 : len = 0
  case neg =>
    have HF : Hid (¬ (AtomP s ∧ n = 0 ∧ len = 0)) := fun h => hl0 h.2.2
    have hlb : ((len : Int) == 0) = false := by simp [hl0]
    clear hl0
    go_wp2_with fail
    go_ret
    exact ⟨false, rfl, iff_no HF.out, hB2⟩
  have hlb : ((len : Int) == 0) = true := by simp [hl0]
  have HF : Hid (AtomP s ∧ n = 0 ∧ len = 0) := ⟨HA.out, hn, hl0⟩
  clear hn hl0
  go_wp2_with fail
  go_ret
  exact ⟨true, rfl, iff_yes HF.out, hB2⟩

set_option maxHeartbeats 2000000 in
theorem fieldsFit_3 (n : Int) (s : ByteArray) (a : Option Addr) (len c : Nat) (w : World) (hs : s.size ≤ 9223372036854775807) (hlen : len ≤ 9223372036854775807) :
    Calls Try.prog 56 #[.agg #[.int .i64 3, .int .i64 n, .string s, .slice a len c]] w fun e w' => ∃ b : Bool, e = .returned (.bool b) ∧ (b = true ↔ Shape 3 n s len) ∧ Below w.heap.size w w' := by
  have hF : ∀ w, Calls Try.prog 59 #[.agg #[.int .i64 3, .int .i64 n, .string s, .slice a len c]] w fun e w' => e = .returned (.iface 85 (.int .i64 n)) ∧ Below w.heap.size w w' := formOf_any 3 n s a len c
  rw [shape3]
  obtain ⟨W, hW⟩ : ∃ W, W = w.alloc (.cells #[.int .i64 3, .int .i64 n, .string s, .slice a len c] 31) := ⟨_, rfl⟩
  have hA : Below w.heap.size w W := by rw [hW]; exact (Below.refl _ _).alloc (Nat.le_refl _) _
  have hWz : W.heap.size = w.heap.size + 1 := by rw [hW]; simp
  have hB1 : W.heap[w.heap.size]? = some (.cells #[.int .i64 3, .int .i64 n, .string s, .slice a len c] 31 (0, 0)) := by rw [hW]; exact heap_alloc_new w _
  have HW : Hid (W = _) := hW
  have hC := hF W
  rw [hW] at hC
  clear hW hF
  go_enter Try.func56, Try.ntmps56
  go_wp2_with fail
  refine hC.mono ?_
  clear hC
  rintro e w1 ⟨rfl, hB⟩
  rw [← HW.out] at hB
  have hB2 : Below w.heap.size w w1 := hA.trans (hB.mono hA.size)
  have c1 : w1.cell? ⟨w.heap.size, 1, none⟩ = some (.int .i64 n) := by rw [cell_of_row w1 _ 1 _ _ _ ((hB.block _ (by omega)).trans hB1)]; rfl
  have c2 : w1.cell? ⟨w.heap.size, 2, none⟩ = some (.string s) := by rw [cell_of_row w1 _ 2 _ _ _ ((hB.block _ (by omega)).trans hB1)]; rfl
  have c3 : w1.cell? ⟨w.heap.size, 3, none⟩ = some (.slice a len c) := by rw [cell_of_row w1 _ 3 _ _ _ ((hB.block _ (by omega)).trans hB1)]; rfl
  clear hB HW hA hB1
  by_cases ha : 0 ≤ n
  case neg =>
    have HF : Hid (¬ ((0 ≤ n ∧ n ≤ 1000000) ∧ s.size = 0 ∧ len = 0)) := fun h => ha h.1.1
    have hab : decide (0 ≤ n) = false := by rw [decide_eq_false_iff_not]; exact ha
    clear ha
    go_wp2_with fail
    go_ret
    exact ⟨false, rfl, iff_no HF.out, hB2⟩
  have hab : decide (0 ≤ n) = true := by rw [decide_eq_true_iff]; exact ha
  by_cases hb : n ≤ 1000000
  case neg =>
    have HF : Hid (¬ ((0 ≤ n ∧ n ≤ 1000000) ∧ s.size = 0 ∧ len = 0)) := fun h => hb h.1.2
    have hbb : decide (n ≤ 1000000) = false := by rw [decide_eq_false_iff_not]; exact hb
    clear hb
    go_wp2_with fail
    go_ret
    exact ⟨false, rfl, iff_no HF.out, hB2⟩
  have hbb : decide (n ≤ 1000000) = true := by rw [decide_eq_true_iff]; exact hb
  by_cases hse : s.size = 0
  case neg =>
    have HF : Hid (¬ ((0 ≤ n ∧ n ≤ 1000000) ∧ s.size = 0 ∧ len = 0)) := fun h => hse h.2.1
    have he := empty_no hse
    clear hse
    go_wp2_with fail
    go_ret
    exact ⟨false, rfl, iff_no HF.out, hB2⟩
  have he := (empty_iff s).2 hse
  by_cases hl0 : len = 0
  case neg =>
    have HF : Hid (¬ ((0 ≤ n ∧ n ≤ 1000000) ∧ s.size = 0 ∧ len = 0)) := fun h => hl0 h.2.2
    have hlb : ((len : Int) == 0) = false := by simp [hl0]
    clear hl0
    go_wp2_with fail
    go_ret
    exact ⟨false, rfl, iff_no HF.out, hB2⟩
  have hlb : ((len : Int) == 0) = true := by simp [hl0]
  have HF : Hid ((0 ≤ n ∧ n ≤ 1000000) ∧ s.size = 0 ∧ len = 0) := ⟨⟨ha, hb⟩, hse, hl0⟩
  clear ha hb hse hl0
  go_wp2_with fail
  go_ret
  exact ⟨true, rfl, iff_yes HF.out, hB2⟩

set_option maxHeartbeats 2000000 in
theorem fieldsFit_4 (n : Int) (s : ByteArray) (a : Option Addr) (len c : Nat) (w : World) (hs : s.size ≤ 9223372036854775807) (hlen : len ≤ 9223372036854775807) :
    Calls Try.prog 56 #[.agg #[.int .i64 4, .int .i64 n, .string s, .slice a len c]] w fun e w' => ∃ b : Bool, e = .returned (.bool b) ∧ (b = true ↔ Shape 4 n s len) ∧ Below w.heap.size w w' := by
  have hF : ∀ w, Calls Try.prog 59 #[.agg #[.int .i64 4, .int .i64 n, .string s, .slice a len c]] w fun e w' => e = .returned (.iface 86 (.slice a len c)) ∧ Below w.heap.size w w' := formOf_any 4 n s a len c
  rw [shape4]
  obtain ⟨W, hW⟩ : ∃ W, W = w.alloc (.cells #[.int .i64 4, .int .i64 n, .string s, .slice a len c] 31) := ⟨_, rfl⟩
  have hA : Below w.heap.size w W := by rw [hW]; exact (Below.refl _ _).alloc (Nat.le_refl _) _
  have hWz : W.heap.size = w.heap.size + 1 := by rw [hW]; simp
  have hB1 : W.heap[w.heap.size]? = some (.cells #[.int .i64 4, .int .i64 n, .string s, .slice a len c] 31 (0, 0)) := by rw [hW]; exact heap_alloc_new w _
  have HW : Hid (W = _) := hW
  have hC := hF W
  rw [hW] at hC
  clear hW hF
  go_enter Try.func56, Try.ntmps56
  go_wp2_with fail
  refine hC.mono ?_
  clear hC
  rintro e w1 ⟨rfl, hB⟩
  rw [← HW.out] at hB
  have hB2 : Below w.heap.size w w1 := hA.trans (hB.mono hA.size)
  have c1 : w1.cell? ⟨w.heap.size, 1, none⟩ = some (.int .i64 n) := by rw [cell_of_row w1 _ 1 _ _ _ ((hB.block _ (by omega)).trans hB1)]; rfl
  have c2 : w1.cell? ⟨w.heap.size, 2, none⟩ = some (.string s) := by rw [cell_of_row w1 _ 2 _ _ _ ((hB.block _ (by omega)).trans hB1)]; rfl
  have c3 : w1.cell? ⟨w.heap.size, 3, none⟩ = some (.slice a len c) := by rw [cell_of_row w1 _ 3 _ _ _ ((hB.block _ (by omega)).trans hB1)]; rfl
  clear hB HW hA hB1
  by_cases hlm : len ≤ 20
  case neg =>
    have HF : Hid (¬ (n = 0 ∧ s.size = 0 ∧ len ≤ 20)) := fun h => hlm h.2.2
    have hlb : decide ((len : Int) ≤ 20) = false := by simp; omega
    clear hlm
    go_wp2_with fail
    go_ret
    exact ⟨false, rfl, iff_no HF.out, hB2⟩
  have hlb : decide ((len : Int) ≤ 20) = true := by simp; omega
  by_cases hn : n = 0
  case neg =>
    have HF : Hid (¬ (n = 0 ∧ s.size = 0 ∧ len ≤ 20)) := fun h => hn h.1
    have hnb : (n == 0) = false := by simp [hn]
    clear hn
    go_wp2_with fail
    go_ret
    exact ⟨false, rfl, iff_no HF.out, hB2⟩
  have hnb : (n == 0) = true := by simp [hn]
  by_cases hse : s.size = 0
  case neg =>
    have HF : Hid (¬ (n = 0 ∧ s.size = 0 ∧ len ≤ 20)) := fun h => hse h.2.1
    have he := empty_no hse
    clear hse
    go_wp2_with fail
    go_ret
    exact ⟨false, rfl, iff_no HF.out, hB2⟩
  have he := (empty_iff s).2 hse
  have HF : Hid (n = 0 ∧ s.size = 0 ∧ len ≤ 20) := ⟨hn, hse, hlm⟩
  clear hlm hn hse
  go_wp2_with fail
  go_ret
  exact ⟨true, rfl, iff_yes HF.out, hB2⟩

set_option maxHeartbeats 2000000 in
theorem fieldsFit_5 (n : Int) (s : ByteArray) (a : Option Addr) (len c : Nat) (w : World) (hs : s.size ≤ 9223372036854775807) (hlen : len ≤ 9223372036854775807) :
    Calls Try.prog 56 #[.agg #[.int .i64 5, .int .i64 n, .string s, .slice a len c]] w fun e w' => ∃ b : Bool, e = .returned (.bool b) ∧ (b = true ↔ Shape 5 n s len) ∧ Below w.heap.size w w' := by
  have hF : ∀ w, Calls Try.prog 59 #[.agg #[.int .i64 5, .int .i64 n, .string s, .slice a len c]] w fun e w' => e = .returned (.iface 87 (.slice a len c)) ∧ Below w.heap.size w w' := formOf_any 5 n s a len c
  rw [shape5]
  obtain ⟨W, hW⟩ : ∃ W, W = w.alloc (.cells #[.int .i64 5, .int .i64 n, .string s, .slice a len c] 31) := ⟨_, rfl⟩
  have hA : Below w.heap.size w W := by rw [hW]; exact (Below.refl _ _).alloc (Nat.le_refl _) _
  have hWz : W.heap.size = w.heap.size + 1 := by rw [hW]; simp
  have hB1 : W.heap[w.heap.size]? = some (.cells #[.int .i64 5, .int .i64 n, .string s, .slice a len c] 31 (0, 0)) := by rw [hW]; exact heap_alloc_new w _
  have HW : Hid (W = _) := hW
  have hC := hF W
  rw [hW] at hC
  clear hW hF
  go_enter Try.func56, Try.ntmps56
  go_wp2_with fail
  refine hC.mono ?_
  clear hC
  rintro e w1 ⟨rfl, hB⟩
  rw [← HW.out] at hB
  have hB2 : Below w.heap.size w w1 := hA.trans (hB.mono hA.size)
  have c1 : w1.cell? ⟨w.heap.size, 1, none⟩ = some (.int .i64 n) := by rw [cell_of_row w1 _ 1 _ _ _ ((hB.block _ (by omega)).trans hB1)]; rfl
  have c2 : w1.cell? ⟨w.heap.size, 2, none⟩ = some (.string s) := by rw [cell_of_row w1 _ 2 _ _ _ ((hB.block _ (by omega)).trans hB1)]; rfl
  have c3 : w1.cell? ⟨w.heap.size, 3, none⟩ = some (.slice a len c) := by rw [cell_of_row w1 _ 3 _ _ _ ((hB.block _ (by omega)).trans hB1)]; rfl
  clear hB HW hA hB1
  by_cases hlm : len ≤ 60
  case neg =>
    have HF : Hid (¬ (n = 0 ∧ s.size = 0 ∧ len ≤ 60)) := fun h => hlm h.2.2
    have hlb : decide ((len : Int) ≤ 60) = false := by simp; omega
    clear hlm
    go_wp2_with fail
    go_ret
    exact ⟨false, rfl, iff_no HF.out, hB2⟩
  have hlb : decide ((len : Int) ≤ 60) = true := by simp; omega
  by_cases hn : n = 0
  case neg =>
    have HF : Hid (¬ (n = 0 ∧ s.size = 0 ∧ len ≤ 60)) := fun h => hn h.1
    have hnb : (n == 0) = false := by simp [hn]
    clear hn
    go_wp2_with fail
    go_ret
    exact ⟨false, rfl, iff_no HF.out, hB2⟩
  have hnb : (n == 0) = true := by simp [hn]
  by_cases hse : s.size = 0
  case neg =>
    have HF : Hid (¬ (n = 0 ∧ s.size = 0 ∧ len ≤ 60)) := fun h => hse h.2.1
    have he := empty_no hse
    clear hse
    go_wp2_with fail
    go_ret
    exact ⟨false, rfl, iff_no HF.out, hB2⟩
  have he := (empty_iff s).2 hse
  have HF : Hid (n = 0 ∧ s.size = 0 ∧ len ≤ 60) := ⟨hn, hse, hlm⟩
  clear hlm hn hse
  go_wp2_with fail
  go_ret
  exact ⟨true, rfl, iff_yes HF.out, hB2⟩

set_option maxHeartbeats 2000000 in
theorem fieldsFit_any : ShapeC 56 := by
  intro k n s a len c w hs hlen
  by_cases h1 : k = 1
  · subst h1; exact fieldsFit_1 n s a len c w hs hlen
  by_cases h2 : k = 2
  · subst h2; exact fieldsFit_2 n s a len c w hs hlen
  by_cases h3 : k = 3
  · subst h3; exact fieldsFit_3 n s a len c w hs hlen
  by_cases h4 : k = 4
  · subst h4; exact fieldsFit_4 n s a len c w hs hlen
  by_cases h5 : k = 5
  · subst h5; exact fieldsFit_5 n s a len c w hs hlen
  have HF : Hid (¬ Shape k n s len) := fun h => by rcases h with h | h | h | h | h; exact h1 h.1; exact h2 h.1; exact h3 h.1; exact h4 h.1; exact h5 h.1
  have hV : formV k n s (.slice a len c) = .nilIface := by
    unfold formV
    rw [if_neg h1, if_neg h2, if_neg h3, if_neg h4, if_neg h5]
  have hC := formOf_any k n s a len c (w.alloc (.cells #[.int .i64 k, .int .i64 n, .string s, .slice a len c] 31))
  rw [hV] at hC
  have hA : Below w.heap.size w (w.alloc (.cells #[.int .i64 k, .int .i64 n, .string s, .slice a len c] 31)) := (Below.refl _ _).alloc (Nat.le_refl _) _
  clear h1 h2 h3 h4 h5 hV
  go_enter Try.func56, Try.ntmps56
  go_wp2_with fail
  refine hC.mono ?_
  clear hC
  rintro e w1 ⟨rfl, hB⟩
  have hB2 : Below w.heap.size w w1 := hA.trans (hB.mono hA.size)
  clear hB hA
  go_wp2_with fail
  go_ret
  exact ⟨false, rfl, iff_no HF.out, hB2⟩

end Go.Proofs.Ytfachfimdenapaa
