/- The program's checks of an atom and of a term's shape: they tell what is right. -/
import Derived.Test.YtgmddookohkhlaaOkM
import Derived.Test.YtgmddookohkhlaaFormM
import Derived.Shelf.Abstract
namespace Go.Proofs.Ytgmddookohkhlaa
open Go.RowKit
set_option linter.unusedVariables false

theorem isSmall_any (x : Int) (w : World) :
    Calls Try.prog 93 #[.int .u8 x] w fun e w' => e = .returned (.bool (decide (97 ≤ x ∧ x ≤ 122))) ∧ w = w' := by
  by_cases h1 : 97 ≤ x
  · by_cases h2 : x ≤ 122
    · have hd : decide (97 ≤ x ∧ x ≤ 122) = true := by simp [h1, h2]
      rw [hd]
      go_enter Try.func93, Try.ntmps93
      go_wp2
      go_ret
      exact ⟨rfl, rfl⟩
    · have hd : decide (97 ≤ x ∧ x ≤ 122) = false := by simp; omega
      rw [hd]
      go_enter Try.func93, Try.ntmps93
      go_wp2
      go_ret
      exact ⟨rfl, rfl⟩
  · have hd : decide (97 ≤ x ∧ x ≤ 122) = false := by simp; omega
    rw [hd]
    go_enter Try.func93, Try.ntmps93
    go_wp2
    go_ret
    exact ⟨rfl, rfl⟩

theorem isDigit_any (x : Int) (w : World) :
    Calls Try.prog 112 #[.int .u8 x] w fun e w' => e = .returned (.bool (decide (48 ≤ x ∧ x ≤ 57))) ∧ w = w' := by
  by_cases h1 : 48 ≤ x
  · by_cases h2 : x ≤ 57
    · have hd : decide (48 ≤ x ∧ x ≤ 57) = true := by simp [h1, h2]
      rw [hd]
      go_enter Try.func112, Try.ntmps112
      go_wp2
      go_ret
      exact ⟨rfl, rfl⟩
    · have hd : decide (48 ≤ x ∧ x ≤ 57) = false := by simp; omega
      rw [hd]
      go_enter Try.func112, Try.ntmps112
      go_wp2
      go_ret
      exact ⟨rfl, rfl⟩
  · have hd : decide (48 ≤ x ∧ x ≤ 57) = false := by simp; omega
    rw [hd]
    go_enter Try.func112, Try.ntmps112
    go_wp2
    go_ret
    exact ⟨rfl, rfl⟩

/-- A byte that an atom may have behind its first. -/
def atB (x : Int) : Bool := decide (97 ≤ x ∧ x ≤ 122) || decide (48 ≤ x ∧ x ≤ 57) || x == 95

theorem isAtomByte_any (x : Int) (w : World) :
    Calls Try.prog 94 #[.int .u8 x] w fun e w' => e = .returned (.bool (atB x)) ∧ w = w' := by
  have hL := isSmall_any x w
  have hL2 := isDigit_any x w
  by_cases h1 : 97 ≤ x ∧ x ≤ 122
  · rw [show decide (97 ≤ x ∧ x ≤ 122) = true from by simp [h1]] at hL
    rw [show atB x = true from by simp [atB, h1]]
    clear h1 hL2
    go_enter Try.func94, Try.ntmps94
    go_wp2_with fail
    refine hL.mono ?_
    clear hL
    rintro e w' ⟨rfl, rfl⟩
    go_wp2_with fail
    go_ret
    exact ⟨rfl, rfl⟩
  rw [show decide (97 ≤ x ∧ x ≤ 122) = false from by simp; omega] at hL
  by_cases h2 : 48 ≤ x ∧ x ≤ 57
  · rw [show decide (48 ≤ x ∧ x ≤ 57) = true from by simp [h2]] at hL2
    rw [show atB x = true from by simp [atB, h2]]
    clear h1 h2
    go_enter Try.func94, Try.ntmps94
    go_wp2_with fail
    refine hL.mono ?_
    clear hL
    rintro e w' ⟨rfl, rfl⟩
    go_wp2_with fail
    refine hL2.mono ?_
    clear hL2
    rintro e w' ⟨rfl, rfl⟩
    go_wp2_with fail
    go_ret
    exact ⟨rfl, rfl⟩
  rw [show decide (48 ≤ x ∧ x ≤ 57) = false from by simp; omega] at hL2
  have hb : atB x = (x == 95) := by
    have e1 : decide (97 ≤ x ∧ x ≤ 122) = false := by simp; omega
    have e2 : decide (48 ≤ x ∧ x ≤ 57) = false := by simp; omega
    simp only [atB, e1, e2, Bool.false_or]
  rw [hb]
  clear h1 h2 hb
  go_enter Try.func94, Try.ntmps94
  go_wp2_with fail
  refine hL.mono ?_
  clear hL
  rintro e w' ⟨rfl, rfl⟩
  go_wp2_with fail
  refine hL2.mono ?_
  clear hL2
  rintro e w' ⟨rfl, rfl⟩
  go_wp2_with fail
  go_ret
  exact ⟨rfl, rfl⟩

theorem atB_iff (x : Int) : atB x = true ↔ (97 ≤ x ∧ x ≤ 122) ∨ (48 ≤ x ∧ x ≤ 57) ∨ x = 95 := by
  simp only [atB, Bool.or_eq_true, decide_eq_true_eq, beq_iff_eq, or_assoc]

set_option maxHeartbeats 1000000 in
theorem atomOk_any (s : ByteArray) (w : World) (hs : s.size ≤ 9223372036854775807) :
    Calls Try.prog 80 #[.string s] w fun e w' => ∃ b : Bool, e = .returned (.bool b) ∧ (b = true ↔ AtomP s) ∧ w = w' := by
  by_cases h0 : s.size < 1
  · have HF : Hid (¬ AtomP s) := fun h => by have := h.2.1; omega
    have hz : s.size = 0 := by omega
    have hb : decide ((s.size : Int) < 1) = true := by rw [hz]; rfl
    clear h0 hs hz
    go_enter Try.func80, Try.ntmps80
    go_wp2_with fail
    go_ret
    exact ⟨false, rfl, iff_no HF.out, rfl⟩
  by_cases h1 : s.size ≤ 20
  case neg =>
    have HF : Hid (¬ AtomP s) := fun h => by have := h.2.2; omega
    have hb : decide ((20 : Int) < s.size) = true := by simp; omega
    have hb2 : decide ((s.size : Int) < 1) = false := by simp; omega
    clear h0 h1 hs
    go_enter Try.func80, Try.ntmps80
    go_wp2
    go_ret
    exact ⟨false, rfl, iff_no HF.out, rfl⟩
  have hlt0 : 0 < s.size := by omega
  obtain ⟨x0, hx0⟩ : ∃ x, (s[0].toNat : Int) = x := ⟨_, rfl⟩
  have HX0 : Hid ((s[0].toNat : Int) = x0) := hx0
  have hL := isSmall_any x0 w
  by_cases hsm0 : 97 ≤ x0 ∧ x0 ≤ 122
  case neg =>
    rw [show decide (97 ≤ x0 ∧ x0 ≤ 122) = false from by simp; omega] at hL
    have HF : Hid (¬ AtomP s) := fun h => by
      have := h.1 0 hlt0
      rw [HX0.out] at this
      rcases this with h | h
      · exact hsm0 h
      · exact h.1 rfl
    clear hsm0
    go_enter Try.func80, Try.ntmps80
    go_wp2_with fail
    refine hL.mono ?_
    clear hL
    rintro e w' ⟨rfl, rfl⟩
    go_wp2
    go_ret
    exact ⟨false, rfl, iff_no HF.out, rfl⟩
  rw [show decide (97 ≤ x0 ∧ x0 ≤ 122) = true from by simp [hsm0]] at hL
  have HS0 : Hid (97 ≤ x0 ∧ x0 ≤ 122) := hsm0
  clear hsm0
  go_enter Try.func80, Try.ntmps80
  go_wp2_with fail
  refine hL.mono ?_
  clear hL
  rintro e w' ⟨rfl, rfl⟩
  clear hx0
  go_wp2_with fail
  go_loop [20] (fun i => ∃ k : Nat, k ≤ s.size ∧ i = .int .i64 k ∧ Hid (∀ (j : Nat) (h : j < s.size), j < k → ChOk j (s[j].toNat : Int))) (fun i => s.size - (intOf i).toNat)
  case atStart => exact ⟨0, Nat.zero_le _, rfl, fun j _ hj => by omega⟩
  case round =>
    obtain ⟨k, hk, rfl, HD⟩ := hrel
    by_cases hlt : k < s.size
    · obtain ⟨x, hx⟩ : ∃ x, (s[k].toNat : Int) = x := ⟨_, rfl⟩
      have HX : Hid ((s[k].toNat : Int) = x) := hx
      have HN : Hid (ChOk k x → ∀ (j : Nat) (h : j < s.size), j < k + 1 → ChOk j (s[j].toNat : Int)) := fun hc j hj hjk => by
        by_cases h : j < k
        · exact HD.out j hj h
        · obtain rfl : j = k := by omega
          rw [HX.out]; exact hc
      have HF : Hid (¬ ChOk k x → ¬ AtomP s) := fun hc ha => hc (by rw [← HX.out]; exact ha.1 k hlt)
      have HZ : Hid (k = 0 → 97 ≤ x ∧ x ≤ 122) := fun h => by subst h; rw [← HX.out, HX0.out]; exact HS0.out
      have hL := isAtomByte_any x w
      by_cases hat : atB x = true
      · rw [hat] at hL
        have HRR : Hid (∀ (j : Nat) (h : j < s.size), j < k + 1 → ChOk j (s[j].toNat : Int)) := HN.out (by
          by_cases hk0 : k = 0
          · exact .inl (HZ.out hk0)
          · rcases (atB_iff x).1 hat with h | h
            · exact .inl h
            · exact .inr ⟨hk0, h⟩)
        clear HN HF HX HD HZ hat
        go_wp2_with fail
        refine hL.mono ?_
        clear hL
        rintro e w' ⟨rfl, rfl⟩
        go_wp2_with fail
        go_round
        case rel => exact ⟨k + 1, by omega, by go_num, HRR⟩
        case measure => simp [intOf]; omega
      · have hatf : atB x = false := by simpa using hat
        rw [hatf] at hL
        have HR : Hid (¬ AtomP s) := HF.out (fun h => hat ((atB_iff x).2 (by rcases h with h | h; exact .inl h; exact .inr h.2)))
        clear HN HF HX HD HZ hat hatf
        go_wp2_with fail
        refine hL.mono ?_
        clear hL
        rintro e w' ⟨rfl, rfl⟩
        go_wp2_with fail
        go_ret
        exact ⟨false, rfl, iff_no HR.out, rfl⟩
    · have HF : Hid (AtomP s) := ⟨fun j hj => HD.out j hj (by omega), by omega, h1⟩
      have hb : decide ((k : Int) < s.size) = false := by simp; omega
      clear hb HD
      go_wp2_with fail
      go_ret
      exact .inr ⟨rfl, HF.out, rfl⟩

/-- What a term is within. -/
def formV (k n : Int) (s : ByteArray) (l : Value) : Value :=
  if k = 1 then .iface 163 (.int .i64 n) else if k = 2 then .iface 164 (.string s) else if k = 3 then .iface 165 (.int .i64 n)
  else if k = 4 then .iface 166 l else if k = 5 then .iface 167 l else .nilIface

set_option maxHeartbeats 1000000 in
theorem formOf_any (k n : Int) (s : ByteArray) (a : Option Addr) (len c : Nat) (w : World) :
    Calls Try.prog 125 #[.agg #[.int .i64 k, .int .i64 n, .string s, .slice a len c]] w fun e w' => e = .returned (formV k n s (.slice a len c)) ∧ Below w.heap.size w w' := by
  have hA : Below w.heap.size w (w.alloc (.cells #[.int .i64 k, .int .i64 n, .string s, .slice a len c] 53)) := (Below.refl _ _).alloc (Nat.le_refl _) _
  by_cases h1 : k = 1
  · subst h1
    go_enter Try.func125, Try.ntmps125
    go_wp2_with fail
    go_ret
    exact ⟨rfl, hA⟩
  by_cases h2 : k = 2
  · subst h2
    go_enter Try.func125, Try.ntmps125
    go_wp2_with fail
    go_ret
    exact ⟨rfl, hA⟩
  by_cases h3 : k = 3
  · subst h3
    go_enter Try.func125, Try.ntmps125
    go_wp2_with fail
    go_ret
    exact ⟨rfl, hA⟩
  by_cases h4 : k = 4
  · subst h4
    go_enter Try.func125, Try.ntmps125
    go_wp2_with fail
    go_ret
    exact ⟨rfl, hA⟩
  by_cases h5 : k = 5
  · subst h5
    go_enter Try.func125, Try.ntmps125
    go_wp2_with fail
    go_ret
    exact ⟨rfl, hA⟩
  have HF : Hid (formV k n s (.slice a len c) = .nilIface) := by
    show _ = _
    unfold formV
    rw [if_neg h1, if_neg h2, if_neg h3, if_neg h4, if_neg h5]
  have e1 : (k == 1) = false := by simp [h1]
  have e2 : (k == 2) = false := by simp [h2]
  have e3 : (k == 3) = false := by simp [h3]
  have e4 : (k == 4) = false := by simp [h4]
  have e5 : (k == 5) = false := by simp [h5]
  rw [HF.out]
  clear h1 h2 h3 h4 h5 HF
  go_enter Try.func125, Try.ntmps125
  go_wp2_with fail
  go_ret
  exact ⟨rfl, hA⟩

set_option maxHeartbeats 2000000 in
theorem fieldsFit_1 (n : Int) (s : ByteArray) (a : Option Addr) (len c : Nat) (w : World) (hs : s.size ≤ 9223372036854775807) (hlen : len ≤ 9223372036854775807) :
    Calls Try.prog 113 #[.agg #[.int .i64 1, .int .i64 n, .string s, .slice a len c]] w fun e w' => ∃ b : Bool, e = .returned (.bool b) ∧ (b = true ↔ Shape 1 n s len) ∧ Below w.heap.size w w' := by
  have hF : ∀ w, Calls Try.prog 125 #[.agg #[.int .i64 1, .int .i64 n, .string s, .slice a len c]] w fun e w' => e = .returned (.iface 163 (.int .i64 n)) ∧ Below w.heap.size w w' := formOf_any 1 n s a len c
  rw [shape1]
  obtain ⟨W, hW⟩ : ∃ W, W = w.alloc (.cells #[.int .i64 1, .int .i64 n, .string s, .slice a len c] 53) := ⟨_, rfl⟩
  have hA : Below w.heap.size w W := by rw [hW]; exact (Below.refl _ _).alloc (Nat.le_refl _) _
  have hWz : W.heap.size = w.heap.size + 1 := by rw [hW]; simp
  have hB1 : W.heap[w.heap.size]? = some (.cells #[.int .i64 1, .int .i64 n, .string s, .slice a len c] 53 (0, 0)) := by rw [hW]; exact heap_alloc_new w _
  have HW : Hid (W = _) := hW
  have hC := hF W
  rw [hW] at hC
  clear hW hF
  go_enter Try.func113, Try.ntmps113
  go_wp2_with fail
  refine hC.mono ?_
  clear hC
  rintro e w1 ⟨rfl, hB⟩
  rw [← HW.out] at hB
  have hB2 : Below w.heap.size w w1 := hA.trans (hB.mono hA.size)
  have c1 : w1.cell? ⟨w.heap.size, 1, none⟩ = some (.int .i64 n) := by rw [cell_of_row w1 _ 1 _ _ _ ((hB.block _ (by omega)).trans hB1)]; rfl
  have c2 : w1.cell? ⟨w.heap.size, 2, none⟩ = some (.string s) := by rw [cell_of_row w1 _ 2 _ _ _ ((hB.block _ (by omega)).trans hB1)]; rfl
  have c3 : w1.cell? ⟨w.heap.size, 3, none⟩ = some (.slice a len c) := by rw [cell_of_row w1 _ 3 _ _ _ ((hB.block _ (by omega)).trans hB1)]; rfl
  clear hB HW hA hB1
  by_cases ha : -1000000000000 ≤ n
  case neg =>
    have HF : Hid (¬ ((-1000000000000 ≤ n ∧ n ≤ 1000000000000) ∧ s.size = 0 ∧ len = 0)) := fun h => ha h.1.1
    have hab : decide (-1000000000000 ≤ n) = false := by rw [decide_eq_false_iff_not]; exact ha
    clear ha
    go_wp2_with fail
    go_ret
    exact ⟨false, rfl, iff_no HF.out, hB2⟩
  have hab : decide (-1000000000000 ≤ n) = true := by rw [decide_eq_true_iff]; exact ha
  by_cases hb : n ≤ 1000000000000
  case neg =>
    have HF : Hid (¬ ((-1000000000000 ≤ n ∧ n ≤ 1000000000000) ∧ s.size = 0 ∧ len = 0)) := fun h => hb h.1.2
    have hbb : decide (n ≤ 1000000000000) = false := by rw [decide_eq_false_iff_not]; exact hb
    clear hb
    go_wp2_with fail
    go_ret
    exact ⟨false, rfl, iff_no HF.out, hB2⟩
  have hbb : decide (n ≤ 1000000000000) = true := by rw [decide_eq_true_iff]; exact hb
  by_cases hse : s.size = 0
  case neg =>
    have HF : Hid (¬ ((-1000000000000 ≤ n ∧ n ≤ 1000000000000) ∧ s.size = 0 ∧ len = 0)) := fun h => hse h.2.1
    have he := empty_no hse
    clear hse
    go_wp2_with fail
    go_ret
    exact ⟨false, rfl, iff_no HF.out, hB2⟩
  have he := (empty_iff s).2 hse
  by_cases hl0 : len = 0
  case neg =>
    have HF : Hid (¬ ((-1000000000000 ≤ n ∧ n ≤ 1000000000000) ∧ s.size = 0 ∧ len = 0)) := fun h => hl0 h.2.2
    have hlb : ((len : Int) == 0) = false := by simp [hl0]
    clear hl0
    go_wp2_with fail
    go_ret
    exact ⟨false, rfl, iff_no HF.out, hB2⟩
  have hlb : ((len : Int) == 0) = true := by simp [hl0]
  have HF : Hid ((-1000000000000 ≤ n ∧ n ≤ 1000000000000) ∧ s.size = 0 ∧ len = 0) := ⟨⟨ha, hb⟩, hse, hl0⟩
  clear ha hb hse hl0
  go_wp2_with fail
  go_ret
  exact ⟨true, rfl, iff_yes HF.out, hB2⟩

set_option maxHeartbeats 2000000 in
theorem fieldsFit_2 (n : Int) (s : ByteArray) (a : Option Addr) (len c : Nat) (w : World) (hs : s.size ≤ 9223372036854775807) (hlen : len ≤ 9223372036854775807) :
    Calls Try.prog 113 #[.agg #[.int .i64 2, .int .i64 n, .string s, .slice a len c]] w fun e w' => ∃ b : Bool, e = .returned (.bool b) ∧ (b = true ↔ Shape 2 n s len) ∧ Below w.heap.size w w' := by
  have hF : ∀ w, Calls Try.prog 125 #[.agg #[.int .i64 2, .int .i64 n, .string s, .slice a len c]] w fun e w' => e = .returned (.iface 164 (.string s)) ∧ Below w.heap.size w w' := formOf_any 2 n s a len c
  rw [shape2]
  obtain ⟨W, hW⟩ : ∃ W, W = w.alloc (.cells #[.int .i64 2, .int .i64 n, .string s, .slice a len c] 53) := ⟨_, rfl⟩
  have hA : Below w.heap.size w W := by rw [hW]; exact (Below.refl _ _).alloc (Nat.le_refl _) _
  have hWz : W.heap.size = w.heap.size + 1 := by rw [hW]; simp
  have hB1 : W.heap[w.heap.size]? = some (.cells #[.int .i64 2, .int .i64 n, .string s, .slice a len c] 53 (0, 0)) := by rw [hW]; exact heap_alloc_new w _
  have HW : Hid (W = _) := hW
  have hC := hF W
  rw [hW] at hC
  clear hW hF
  go_enter Try.func113, Try.ntmps113
  go_wp2_with fail
  refine hC.mono ?_
  clear hC
  rintro e w1 ⟨rfl, hB⟩
  rw [← HW.out] at hB
  have hB2 : Below w.heap.size w w1 := hA.trans (hB.mono hA.size)
  have c1 : w1.cell? ⟨w.heap.size, 1, none⟩ = some (.int .i64 n) := by rw [cell_of_row w1 _ 1 _ _ _ ((hB.block _ (by omega)).trans hB1)]; rfl
  have c2 : w1.cell? ⟨w.heap.size, 2, none⟩ = some (.string s) := by rw [cell_of_row w1 _ 2 _ _ _ ((hB.block _ (by omega)).trans hB1)]; rfl
  have c3 : w1.cell? ⟨w.heap.size, 3, none⟩ = some (.slice a len c) := by rw [cell_of_row w1 _ 3 _ _ _ ((hB.block _ (by omega)).trans hB1)]; rfl
  clear hB HW hA hB1
  have hL := atomOk_any s w1 hs
  go_wp2_with fail
  refine hL.mono ?_
  clear hL
  rintro e w' ⟨b, rfl, hb, rfl⟩
  cases b
  · have HF : Hid (¬ (AtomP s ∧ n = 0 ∧ len = 0)) := fun h => by have := hb.2 h.1; cases this
    clear hb
    go_wp2_with fail
    go_ret
    exact ⟨false, rfl, iff_no HF.out, hB2⟩
  have HA : Hid (AtomP s) := hb.1 rfl
  clear hb
  by_cases hn : n = 0
  case neg =>
    have HF : Hid (¬ (AtomP s ∧ n = 0 ∧ len = 0)) := fun h => hn h.2.1
    have hnb : (n == 0) = false := by simp [hn]
    clear hn
    go_wp2_with fail
    go_ret
    exact ⟨false, rfl, iff_no HF.out, hB2⟩
  have hnb : (n == 0) = true := by simp [hn]
  by_cases hl0 : len = 0
  case neg =>
    have HF : Hid (¬ (AtomP s ∧ n = 0 ∧ len = 0)) := fun h => hl0 h.2.2
    have hlb : ((len : Int) == 0) = false := by simp [hl0]
    clear hl0
    go_wp2_with fail
    go_ret
    exact ⟨false, rfl, iff_no HF.out, hB2⟩
  have hlb : ((len : Int) == 0) = true := by simp [hl0]
  have HF : Hid (AtomP s ∧ n = 0 ∧ len = 0) := ⟨HA.out, hn, hl0⟩
  clear hn hl0
  go_wp2_with fail
  go_ret
  exact ⟨true, rfl, iff_yes HF.out, hB2⟩

set_option maxHeartbeats 2000000 in
theorem fieldsFit_3 (n : Int) (s : ByteArray) (a : Option Addr) (len c : Nat) (w : World) (hs : s.size ≤ 9223372036854775807) (hlen : len ≤ 9223372036854775807) :
    Calls Try.prog 113 #[.agg #[.int .i64 3, .int .i64 n, .string s, .slice a len c]] w fun e w' => ∃ b : Bool, e = .returned (.bool b) ∧ (b = true ↔ Shape 3 n s len) ∧ Below w.heap.size w w' := by
  have hF : ∀ w, Calls Try.prog 125 #[.agg #[.int .i64 3, .int .i64 n, .string s, .slice a len c]] w fun e w' => e = .returned (.iface 165 (.int .i64 n)) ∧ Below w.heap.size w w' := formOf_any 3 n s a len c
  rw [shape3]
  obtain ⟨W, hW⟩ : ∃ W, W = w.alloc (.cells #[.int .i64 3, .int .i64 n, .string s, .slice a len c] 53) := ⟨_, rfl⟩
  have hA : Below w.heap.size w W := by rw [hW]; exact (Below.refl _ _).alloc (Nat.le_refl _) _
  have hWz : W.heap.size = w.heap.size + 1 := by rw [hW]; simp
  have hB1 : W.heap[w.heap.size]? = some (.cells #[.int .i64 3, .int .i64 n, .string s, .slice a len c] 53 (0, 0)) := by rw [hW]; exact heap_alloc_new w _
  have HW : Hid (W = _) := hW
  have hC := hF W
  rw [hW] at hC
  clear hW hF
  go_enter Try.func113, Try.ntmps113
  go_wp2_with fail
  refine hC.mono ?_
  clear hC
  rintro e w1 ⟨rfl, hB⟩
  rw [← HW.out] at hB
  have hB2 : Below w.heap.size w w1 := hA.trans (hB.mono hA.size)
  have c1 : w1.cell? ⟨w.heap.size, 1, none⟩ = some (.int .i64 n) := by rw [cell_of_row w1 _ 1 _ _ _ ((hB.block _ (by omega)).trans hB1)]; rfl
  have c2 : w1.cell? ⟨w.heap.size, 2, none⟩ = some (.string s) := by rw [cell_of_row w1 _ 2 _ _ _ ((hB.block _ (by omega)).trans hB1)]; rfl
  have c3 : w1.cell? ⟨w.heap.size, 3, none⟩ = some (.slice a len c) := by rw [cell_of_row w1 _ 3 _ _ _ ((hB.block _ (by omega)).trans hB1)]; rfl
  clear hB HW hA hB1
  by_cases ha : 0 ≤ n
  case neg =>
    have HF : Hid (¬ ((0 ≤ n ∧ n ≤ 1000000) ∧ s.size = 0 ∧ len = 0)) := fun h => ha h.1.1
    have hab : decide (0 ≤ n) = false := by rw [decide_eq_false_iff_not]; exact ha
    clear ha
    go_wp2_with fail
    go_ret
    exact ⟨false, rfl, iff_no HF.out, hB2⟩
  have hab : decide (0 ≤ n) = true := by rw [decide_eq_true_iff]; exact ha
  by_cases hb : n ≤ 1000000
  case neg =>
    have HF : Hid (¬ ((0 ≤ n ∧ n ≤ 1000000) ∧ s.size = 0 ∧ len = 0)) := fun h => hb h.1.2
    have hbb : decide (n ≤ 1000000) = false := by rw [decide_eq_false_iff_not]; exact hb
    clear hb
    go_wp2_with fail
    go_ret
    exact ⟨false, rfl, iff_no HF.out, hB2⟩
  have hbb : decide (n ≤ 1000000) = true := by rw [decide_eq_true_iff]; exact hb
  by_cases hse : s.size = 0
  case neg =>
    have HF : Hid (¬ ((0 ≤ n ∧ n ≤ 1000000) ∧ s.size = 0 ∧ len = 0)) := fun h => hse h.2.1
    have he := empty_no hse
    clear hse
    go_wp2_with fail
    go_ret
    exact ⟨false, rfl, iff_no HF.out, hB2⟩
  have he := (empty_iff s).2 hse
  by_cases hl0 : len = 0
  case neg =>
    have HF : Hid (¬ ((0 ≤ n ∧ n ≤ 1000000) ∧ s.size = 0 ∧ len = 0)) := fun h => hl0 h.2.2
    have hlb : ((len : Int) == 0) = false := by simp [hl0]
    clear hl0
    go_wp2_with fail
    go_ret
    exact ⟨false, rfl, iff_no HF.out, hB2⟩
  have hlb : ((len : Int) == 0) = true := by simp [hl0]
  have HF : Hid ((0 ≤ n ∧ n ≤ 1000000) ∧ s.size = 0 ∧ len = 0) := ⟨⟨ha, hb⟩, hse, hl0⟩
  clear ha hb hse hl0
  go_wp2_with fail
  go_ret
  exact ⟨true, rfl, iff_yes HF.out, hB2⟩

set_option maxHeartbeats 2000000 in
theorem fieldsFit_4 (n : Int) (s : ByteArray) (a : Option Addr) (len c : Nat) (w : World) (hs : s.size ≤ 9223372036854775807) (hlen : len ≤ 9223372036854775807) :
    Calls Try.prog 113 #[.agg #[.int .i64 4, .int .i64 n, .string s, .slice a len c]] w fun e w' => ∃ b : Bool, e = .returned (.bool b) ∧ (b = true ↔ Shape 4 n s len) ∧ Below w.heap.size w w' := by
  have hF : ∀ w, Calls Try.prog 125 #[.agg #[.int .i64 4, .int .i64 n, .string s, .slice a len c]] w fun e w' => e = .returned (.iface 166 (.slice a len c)) ∧ Below w.heap.size w w' := formOf_any 4 n s a len c
  rw [shape4]
  obtain ⟨W, hW⟩ : ∃ W, W = w.alloc (.cells #[.int .i64 4, .int .i64 n, .string s, .slice a len c] 53) := ⟨_, rfl⟩
  have hA : Below w.heap.size w W := by rw [hW]; exact (Below.refl _ _).alloc (Nat.le_refl _) _
  have hWz : W.heap.size = w.heap.size + 1 := by rw [hW]; simp
  have hB1 : W.heap[w.heap.size]? = some (.cells #[.int .i64 4, .int .i64 n, .string s, .slice a len c] 53 (0, 0)) := by rw [hW]; exact heap_alloc_new w _
  have HW : Hid (W = _) := hW
  have hC := hF W
  rw [hW] at hC
  clear hW hF
  go_enter Try.func113, Try.ntmps113
  go_wp2_with fail
  refine hC.mono ?_
  clear hC
  rintro e w1 ⟨rfl, hB⟩
  rw [← HW.out] at hB
  have hB2 : Below w.heap.size w w1 := hA.trans (hB.mono hA.size)
  have c1 : w1.cell? ⟨w.heap.size, 1, none⟩ = some (.int .i64 n) := by rw [cell_of_row w1 _ 1 _ _ _ ((hB.block _ (by omega)).trans hB1)]; rfl
  have c2 : w1.cell? ⟨w.heap.size, 2, none⟩ = some (.string s) := by rw [cell_of_row w1 _ 2 _ _ _ ((hB.block _ (by omega)).trans hB1)]; rfl
  have c3 : w1.cell? ⟨w.heap.size, 3, none⟩ = some (.slice a len c) := by rw [cell_of_row w1 _ 3 _ _ _ ((hB.block _ (by omega)).trans hB1)]; rfl
  clear hB HW hA hB1
  by_cases hlm : len ≤ 20
  case neg =>
    have HF : Hid (¬ (n = 0 ∧ s.size = 0 ∧ len ≤ 20)) := fun h => hlm h.2.2
    have hlb : decide ((len : Int) ≤ 20) = false := by simp; omega
    clear hlm
    go_wp2_with fail
    go_ret
    exact ⟨false, rfl, iff_no HF.out, hB2⟩
  have hlb : decide ((len : Int) ≤ 20) = true := by simp; omega
  by_cases hn : n = 0
  case neg =>
    have HF : Hid (¬ (n = 0 ∧ s.size = 0 ∧ len ≤ 20)) := fun h => hn h.1
    have hnb : (n == 0) = false := by simp [hn]
    clear hn
    go_wp2_with fail
    go_ret
    exact ⟨false, rfl, iff_no HF.out, hB2⟩
  have hnb : (n == 0) = true := by simp [hn]
  by_cases hse : s.size = 0
  case neg =>
    have HF : Hid (¬ (n = 0 ∧ s.size = 0 ∧ len ≤ 20)) := fun h => hse h.2.1
    have he := empty_no hse
    clear hse
    go_wp2_with fail
    go_ret
    exact ⟨false, rfl, iff_no HF.out, hB2⟩
  have he := (empty_iff s).2 hse
  have HF : Hid (n = 0 ∧ s.size = 0 ∧ len ≤ 20) := ⟨hn, hse, hlm⟩
  clear hlm hn hse
  go_wp2_with fail
  go_ret
  exact ⟨true, rfl, iff_yes HF.out, hB2⟩

set_option maxHeartbeats 2000000 in
theorem fieldsFit_5 (n : Int) (s : ByteArray) (a : Option Addr) (len c : Nat) (w : World) (hs : s.size ≤ 9223372036854775807) (hlen : len ≤ 9223372036854775807) :
    Calls Try.prog 113 #[.agg #[.int .i64 5, .int .i64 n, .string s, .slice a len c]] w fun e w' => ∃ b : Bool, e = .returned (.bool b) ∧ (b = true ↔ Shape 5 n s len) ∧ Below w.heap.size w w' := by
  have hF : ∀ w, Calls Try.prog 125 #[.agg #[.int .i64 5, .int .i64 n, .string s, .slice a len c]] w fun e w' => e = .returned (.iface 167 (.slice a len c)) ∧ Below w.heap.size w w' := formOf_any 5 n s a len c
  rw [shape5]
  obtain ⟨W, hW⟩ : ∃ W, W = w.alloc (.cells #[.int .i64 5, .int .i64 n, .string s, .slice a len c] 53) := ⟨_, rfl⟩
  have hA : Below w.heap.size w W := by rw [hW]; exact (Below.refl _ _).alloc (Nat.le_refl _) _
  have hWz : W.heap.size = w.heap.size + 1 := by rw [hW]; simp
  have hB1 : W.heap[w.heap.size]? = some (.cells #[.int .i64 5, .int .i64 n, .string s, .slice a len c] 53 (0, 0)) := by rw [hW]; exact heap_alloc_new w _
  have HW : Hid (W = _) := hW
  have hC := hF W
  rw [hW] at hC
  clear hW hF
  go_enter Try.func113, Try.ntmps113
  go_wp2_with fail
  refine hC.mono ?_
  clear hC
  rintro e w1 ⟨rfl, hB⟩
  rw [← HW.out] at hB
  have hB2 : Below w.heap.size w w1 := hA.trans (hB.mono hA.size)
  have c1 : w1.cell? ⟨w.heap.size, 1, none⟩ = some (.int .i64 n) := by rw [cell_of_row w1 _ 1 _ _ _ ((hB.block _ (by omega)).trans hB1)]; rfl
  have c2 : w1.cell? ⟨w.heap.size, 2, none⟩ = some (.string s) := by rw [cell_of_row w1 _ 2 _ _ _ ((hB.block _ (by omega)).trans hB1)]; rfl
  have c3 : w1.cell? ⟨w.heap.size, 3, none⟩ = some (.slice a len c) := by rw [cell_of_row w1 _ 3 _ _ _ ((hB.block _ (by omega)).trans hB1)]; rfl
  clear hB HW hA hB1
  by_cases hlm : len ≤ 60
  case neg =>
    have HF : Hid (¬ (n = 0 ∧ s.size = 0 ∧ len ≤ 60)) := fun h => hlm h.2.2
    have hlb : decide ((len : Int) ≤ 60) = false := by simp; omega
    clear hlm
    go_wp2_with fail
    go_ret
    exact ⟨false, rfl, iff_no HF.out, hB2⟩
  have hlb : decide ((len : Int) ≤ 60) = true := by simp; omega
  by_cases hn : n = 0
  case neg =>
    have HF : Hid (¬ (n = 0 ∧ s.size = 0 ∧ len ≤ 60)) := fun h => hn h.1
    have hnb : (n == 0) = false := by simp [hn]
    clear hn
    go_wp2_with fail
    go_ret
    exact ⟨false, rfl, iff_no HF.out, hB2⟩
  have hnb : (n == 0) = true := by simp [hn]
  by_cases hse : s.size = 0
  case neg =>
    have HF : Hid (¬ (n = 0 ∧ s.size = 0 ∧ len ≤ 60)) := fun h => hse h.2.1
    have he := empty_no hse
    clear hse
    go_wp2_with fail
    go_ret
    exact ⟨false, rfl, iff_no HF.out, hB2⟩
  have he := (empty_iff s).2 hse
  have HF : Hid (n = 0 ∧ s.size = 0 ∧ len ≤ 60) := ⟨hn, hse, hlm⟩
  clear hlm hn hse
  go_wp2_with fail
  go_ret
  exact ⟨true, rfl, iff_yes HF.out, hB2⟩

set_option maxHeartbeats 2000000 in
theorem fieldsFit_any : ShapeC 113 := by
  intro k n s a len c w hs hlen
  by_cases h1 : k = 1
  · subst h1; exact fieldsFit_1 n s a len c w hs hlen
  by_cases h2 : k = 2
  · subst h2; exact fieldsFit_2 n s a len c w hs hlen
  by_cases h3 : k = 3
  · subst h3; exact fieldsFit_3 n s a len c w hs hlen
  by_cases h4 : k = 4
  · subst h4; exact fieldsFit_4 n s a len c w hs hlen
  by_cases h5 : k = 5
  · subst h5; exact fieldsFit_5 n s a len c w hs hlen
  have HF : Hid (¬ Shape k n s len) := fun h => by rcases h with h | h | h | h | h; exact h1 h.1; exact h2 h.1; exact h3 h.1; exact h4 h.1; exact h5 h.1
  have hV : formV k n s (.slice a len c) = .nilIface := by
    unfold formV
    rw [if_neg h1, if_neg h2, if_neg h3, if_neg h4, if_neg h5]
  have hC := formOf_any k n s a len c (w.alloc (.cells #[.int .i64 k, .int .i64 n, .string s, .slice a len c] 53))
  rw [hV] at hC
  have hA : Below w.heap.size w (w.alloc (.cells #[.int .i64 k, .int .i64 n, .string s, .slice a len c] 53)) := (Below.refl _ _).alloc (Nat.le_refl _) _
  clear h1 h2 h3 h4 h5 hV
  go_enter Try.func113, Try.ntmps113
  go_wp2_with fail
  refine hC.mono ?_
  clear hC
  rintro e w1 ⟨rfl, hB⟩
  have hB2 : Below w.heap.size w w1 := hA.trans (hB.mono hA.size)
  clear hB hA
  go_wp2_with fail
  go_ret
  exact ⟨false, rfl, iff_no HF.out, hB2⟩

end Go.Proofs.Ytgmddookohkhlaa

/- The program's check of a whole term: it tells what is right. -/
namespace Go.Proofs.Ytgmddookohkhlaa
open Go.RowKit
set_option linter.unusedVariables false

/-- Only block p was written; new ones may have come. -/
structure Turned (p : Nat) (w w' : World) : Prop where
  os : w'.os = w.os
  tape : w'.tape = w.tape
  output : w'.output = w.output
  size : w.heap.size ≤ w'.heap.size
  block : ∀ g, g < w.heap.size → g ≠ p → w'.heap[g]? = w.heap[g]?

theorem Turned.refl (p : Nat) (w : World) : Turned p w w := ⟨rfl, rfl, rfl, Nat.le_refl _, fun _ _ _ => rfl⟩
theorem Turned.trans {p : Nat} {a b c : World} (h : Turned p a b) (k : Turned p b c) : Turned p a c :=
  ⟨k.os.trans h.os, k.tape.trans h.tape, k.output.trans h.output, Nat.le_trans h.size k.size, fun g hg hn => (k.block g (Nat.lt_of_lt_of_le hg h.size) hn).trans (h.block g hg hn)⟩
theorem Turned.of_below {p : Nat} {a b : World} (h : Below a.heap.size a b) : Turned p a b := ⟨h.os, h.tape, h.output, h.size, fun g hg _ => h.block g hg⟩
theorem Turned.of_set (w : World) (g o : Nat) (v : Value) : Turned g w (w.setCell ⟨g, o, none⟩ v) :=
  ⟨rfl, rfl, rfl, by simp, fun j _ hn => heap_setCell_other w ⟨g, o, none⟩ j v hn⟩
/-- What lies below the block is as it was. -/
theorem Turned.below {p B : Nat} {a b : World} (h : Turned p a b) (hp : B ≤ p) (hB : B ≤ a.heap.size) : Below B a b := ⟨h.os, h.tape, h.output, h.size, fun g hg => h.block g (by omega) (by omega)⟩

/-- The contract of the check of a term, at a depth, with a count of how many may be left. -/
def FitC (f d : Nat) : Prop := ∀ (w0 : World) (k n : Int) (s : ByteArray) (l : Value) (ts : List (Tm d)) (deep L : Int) (p : Nat) (w : World), RdL d w0 l ts → WfL d ts → s.size ≤ 9223372036854775807 →
  Below w0.heap.size w0 w → w0.heap.size ≤ p → w.heap[p]? = some (.cells #[.int .i64 L] 3 (0, 0)) → 1 ≤ deep → deep ≤ 1000 → 0 ≤ L → L ≤ 1000000 →
  Calls Try.prog f #[.agg #[.int .i64 k, .int .i64 n, .string s, l], .int .i64 deep, .pointer (some ⟨p, 0, none⟩)] w fun e w' => ∃ b : Bool, e = .returned (.bool b) ∧ (b = true ↔ Right d k n s ts (9 - deep) L) ∧
    (b = true → w'.heap[p]? = some (.cells #[.int .i64 (L - (1 + cntL d ts : Nat))] 3 (0, 0))) ∧ Turned p w w'

set_option maxHeartbeats 1000000 in
/-- What is refused at once. -/
theorem termFits_no (k n : Int) (s : ByteArray) (a : Option Addr) (len c : Nat) (deep L : Int) (p : Nat) (w : World) (hs : s.size ≤ 9223372036854775807) (hln : len ≤ 9223372036854775807)
    (hcell : w.heap[p]? = some (.cells #[.int .i64 L] 3 (0, 0))) (hd0 : 1 ≤ deep) (hd1 : deep ≤ 1000) (hL0 : 0 ≤ L) (hL1 : L ≤ 1000000) (h : L = 0 ∨ 8 < deep ∨ ¬ Shape k n s len) :
    Calls Try.prog 95 #[.agg #[.int .i64 k, .int .i64 n, .string s, .slice a len c], .int .i64 deep, .pointer (some ⟨p, 0, none⟩)] w fun e w' => e = .returned (.bool false) ∧ Turned p w w' := by
  have hpz : p < w.heap.size := Nat.lt_of_not_le fun h => by rw [Array.getElem?_eq_none h] at hcell; cases hcell
  have c0 : w.cell? ⟨p, 0, none⟩ = some (.int .i64 L) := by rw [cell_of_row w _ 0 _ _ _ hcell]; rfl
  have z0 : w.frozen? ⟨p, 0, none⟩ = false := frozen_of_row w _ _ _ _ hcell
  have hT0 : ∀ x o1, Turned p w ((w.setCell ⟨p, 0, none⟩ (.int .i64 x)).alloc o1) := fun x o1 => (Turned.of_set _ _ _ _).trans (Turned.of_below ((Below.refl _ _).alloc (Nat.le_refl _) _))
  by_cases h1 : L = 0
  · subst h1
    have hT := hT0 (-1) (.cells #[.int .i64 k, .int .i64 n, .string s, .slice a len c] 53)
    clear h
    go_enter Try.func95, Try.ntmps95
    go_wp2_with fail
    go_ret
    exact ⟨rfl, hT⟩
  · have hL2 : decide (L - 1 < 0) = false := by simp; omega
    by_cases h2 : 8 < deep
    · have hT := hT0 (L - 1) (.cells #[.int .i64 k, .int .i64 n, .string s, .slice a len c] 53)
      clear h h1
      go_enter Try.func95, Try.ntmps95
      go_wp2_with fail
      go_ret
      exact ⟨rfl, hT⟩
    · have h3 : Hid (¬ Shape k n s len) := by rcases h with h | h | h; exact absurd h h1; exact absurd h h2; exact h
      have hT := hT0 (L - 1) (.cells #[.int .i64 k, .int .i64 n, .string s, .slice a len c] 53)
      have hC := fieldsFit_any k n s a len c ((w.setCell ⟨p, 0, none⟩ (.int .i64 (L - 1))).alloc (.cells #[.int .i64 k, .int .i64 n, .string s, .slice a len c] 53)) hs hln
      have HT : Hid (Turned p w _) := hT
      clear h h1 hT hT0
      go_enter Try.func95, Try.ntmps95
      go_wp2_with fail
      refine hC.mono ?_
      clear hC
      rintro e w1 ⟨b, rfl, hb, hB⟩
      have hb2 : Turned p w w1 := HT.out.trans (Turned.of_below hB)
      have : b = false := by cases b; rfl; exact absurd (hb.1 rfl) h3.out
      subst this
      clear hb hB h3 HT
      go_wp2_with fail
      go_ret
      exact ⟨rfl, hb2⟩

set_option maxHeartbeats 1000000 in
theorem termFits_any : ∀ d, FitC 95 d := by
  intro d
  induction d with
  | zero =>
    intro w0 k n s l ts deep L p w hr hw hs hb0 hp hcell hd0 hd1 hL0 hL1
    obtain ⟨a, c, rfl⟩ := hr.len
    have hln := hw.len
    by_cases h : L = 0 ∨ 8 < deep ∨ ¬ Shape k n s ts.length
    · refine (termFits_no k n s a _ c deep L p w hs hln hcell hd0 hd1 hL0 hL1 h).mono ?_
      rintro e w' ⟨rfl, hb⟩
      refine ⟨false, rfl, iff_no fun hR => ?_, (fun e => Bool.noConfusion e), hb⟩
      obtain ⟨r1, _, r3, r4⟩ := hR
      rcases h with h | h | h
      · omega
      · omega
      · exact h r1
    have h1 : ¬ L = 0 := fun e => h (.inl e)
    have h2 : ¬ 8 < deep := fun e => h (.inr (.inl e))
    have H3 : Hid (Shape k n s ts.length) := Classical.byContradiction fun e => h (.inr (.inr e))
    have HR : Hid (Right 0 k n s ts (9 - deep) L) := right_zero (by omega) (by omega) H3.out
    have hz : ts.length = 0 := by
      cases ts with
      | nil => rfl
      | cons t _ => exact Empty.elim t
    have H3 : Hid (Shape k n s 0) := by rw [← hz]; exact H3.out
    have HC0 : Hid (cntL 0 ts = 0) := rfl
    rw [hz]
    have hpz : p < w.heap.size := Nat.lt_of_not_le fun h => by rw [Array.getElem?_eq_none h] at hcell; cases hcell
    have c0 : w.cell? ⟨p, 0, none⟩ = some (.int .i64 L) := by rw [cell_of_row w _ 0 _ _ _ hcell]; rfl
    have z0 : w.frozen? ⟨p, 0, none⟩ = false := frozen_of_row w _ _ _ _ hcell
    obtain ⟨W, hW⟩ : ∃ W, W = w.setCell ⟨p, 0, none⟩ (.int .i64 (L - 1)) := ⟨_, rfl⟩
    have hWz : W.heap.size = w.heap.size := by rw [hW]; simp
    have hWp : W.heap[p]? = some (.cells #[.int .i64 (L - 1)] 3 (0, 0)) := by rw [hW]; exact heap_setCell_same w p 0 _ _ _ hcell
    obtain ⟨V, hV⟩ : ∃ V, V = W.alloc (.cells #[.int .i64 k, .int .i64 n, .string s, .slice a 0 c] 53) := ⟨_, rfl⟩
    have hA : Below W.heap.size W V := by rw [hV]; exact (Below.refl _ _).alloc (Nat.le_refl _) _
    have hT : Turned p w V := Turned.trans (by rw [hW]; exact Turned.of_set _ _ _ _) (Turned.of_below hA)
    have hVz : V.heap.size = w.heap.size + 1 := by rw [hV]; simp [hWz]
    have HVp : Hid (V.heap[p]? = some (.cells #[.int .i64 (L - 1)] 3 (0, 0))) := (hA.block _ (by omega)).trans hWp
    have hVt : V.heap[w.heap.size]? = some (.cells #[.int .i64 k, .int .i64 n, .string s, .slice a 0 c] 53 (0, 0)) := by
      rw [hV, ← hWz]; exact heap_alloc_new W _
    have hC := fieldsFit_any k n s a 0 c V hs (by omega)
    rw [hV, hW] at hC
    have HV : Hid (V = _) := hV
    have HW : Hid (W = _) := hW
    have hL2 : decide (L - 1 < 0) = false := by simp; omega
    clear h hV hW hWp hA
    go_enter Try.func95, Try.ntmps95
    go_wp2_with fail
    refine hC.mono ?_
    clear hC
    rintro e w1 ⟨b, rfl, hb, hB⟩
    rw [← HW.out, ← HV.out] at hB
    have hT1 : Turned p w w1 := hT.trans (Turned.of_below hB)
    have : b = true := hb.2 H3.out
    subst this
    have HP1 : Hid (w1.heap[p]? = some (.cells #[.int .i64 (L - (1 + cntL 0 ts : Nat))] 3 (0, 0))) := by
      show _ = _
      rw [(hB.block _ (by omega)).trans HVp.out, HC0.out]
      rfl
    have c3 : w1.cell? ⟨w.heap.size, 3, none⟩ = some (.slice a 0 c) := by rw [cell_of_row w1 _ 3 _ _ _ ((hB.block _ (by omega)).trans hVt)]; rfl
    clear hb hB HW HV hT hVz hVt hWz c0 z0 HVp HC0
    go_wp2_with fail
    refine wp_loop_rounds 1 ?_
    rw [rounds_succ]
    go_wp2_with fail
    go_ret
    exact ⟨true, rfl, iff_yes HR.out, fun _ => HP1.out, hT1⟩
  | succ d ih =>
    intro w0 k n s l ts deep L p w hr hw hs hb0 hp hcell hd0 hd1 hL0 hL1
    obtain ⟨a, c, rfl, hel⟩ := hr
    have hln := hw.len
    by_cases h : L = 0 ∨ 8 < deep ∨ ¬ Shape k n s ts.length
    · refine (termFits_no k n s a _ c deep L p w hs hln hcell hd0 hd1 hL0 hL1 h).mono ?_
      rintro e w' ⟨rfl, hb⟩
      refine ⟨false, rfl, iff_no fun hR => ?_, (fun e => Bool.noConfusion e), hb⟩
      obtain ⟨r1, _, r3, r4⟩ := hR
      rcases h with h | h | h
      · omega
      · omega
      · exact h r1
    have h1 : ¬ L = 0 := fun e => h (.inl e)
    have h2 : ¬ 8 < deep := fun e => h (.inr (.inl e))
    have H3 : Hid (Shape k n s ts.length) := Classical.byContradiction fun e => h (.inr (.inr e))
    have HE : Hid (∀ (i : Nat) (t : Tm (d + 1)), ts[i]? = some t → ∃ b o lv, a = some ⟨b, o, none⟩ ∧ Four w0 b (o + i * 4) t.K t.N t.S lv ∧ RdL d w0 lv t.L) := hel
    have HWF : Hid (WfL (d + 1) ts) := hw
    obtain ⟨len, hl⟩ : ∃ len, ts.length = len := ⟨_, rfl⟩
    have HL : Hid (ts.length = len) := hl
    rw [hl] at hln ⊢
    have hpz : p < w.heap.size := Nat.lt_of_not_le fun h => by rw [Array.getElem?_eq_none h] at hcell; cases hcell
    have c0 : w.cell? ⟨p, 0, none⟩ = some (.int .i64 L) := by rw [cell_of_row w _ 0 _ _ _ hcell]; rfl
    have z0 : w.frozen? ⟨p, 0, none⟩ = false := frozen_of_row w _ _ _ _ hcell
    obtain ⟨W, hW⟩ : ∃ W, W = w.setCell ⟨p, 0, none⟩ (.int .i64 (L - 1)) := ⟨_, rfl⟩
    have hWz : W.heap.size = w.heap.size := by rw [hW]; simp
    have hWp : W.heap[p]? = some (.cells #[.int .i64 (L - 1)] 3 (0, 0)) := by rw [hW]; exact heap_setCell_same w p 0 _ _ _ hcell
    obtain ⟨V, hV⟩ : ∃ V, V = W.alloc (.cells #[.int .i64 k, .int .i64 n, .string s, .slice a len c] 53) := ⟨_, rfl⟩
    have hA : Below W.heap.size W V := by rw [hV]; exact (Below.refl _ _).alloc (Nat.le_refl _) _
    have hT : Turned p w V := Turned.trans (by rw [hW]; exact Turned.of_set _ _ _ _) (Turned.of_below hA)
    have hVz : V.heap.size = w.heap.size + 1 := by rw [hV]; simp [hWz]
    have HVp : Hid (V.heap[p]? = some (.cells #[.int .i64 (L - 1)] 3 (0, 0))) := (hA.block _ (by omega)).trans hWp
    have hVt : V.heap[w.heap.size]? = some (.cells #[.int .i64 k, .int .i64 n, .string s, .slice a len c] 53 (0, 0)) := by
      rw [hV, ← hWz]; exact heap_alloc_new W _
    have hC := fieldsFit_any k n s a len c V hs hln
    rw [hV, hW] at hC
    have HV : Hid (V = _) := hV
    have HW : Hid (W = _) := hW
    have HI : Hid (FitC 95 d) := ih
    have hL2 : decide (L - 1 < 0) = false := by simp; omega
    clear h hV hW ih hel hw hl hWp hA
    go_enter Try.func95, Try.ntmps95
    go_wp2_with fail
    refine hC.mono ?_
    clear hC
    rintro e w1 ⟨b, rfl, hb, hB⟩
    rw [← HW.out, ← HV.out] at hB
    have hT1 : Turned p w w1 := hT.trans (Turned.of_below hB)
    have : b = true := hb.2 (by rw [← HL.out]; exact H3.out)
    subst this
    have HP1 : Hid (w1.heap[p]? = some (.cells #[.int .i64 (L - 1)] 3 (0, 0))) := (hB.block _ (by omega)).trans HVp.out
    have HB1 : Hid (w1.heap[w.heap.size]? = _) := (hB.block _ (by omega)).trans hVt
    have c3 : w1.cell? ⟨w.heap.size, 3, none⟩ = some (.slice a len c) := by rw [cell_of_row w1 _ 3 _ _ _ HB1.out]; rfl
    have hwz : w.heap.size < w1.heap.size := by have := hB.size; omega
    clear hb hB HW HV hT hVz hVt hWz c0 z0 HVp
    go_wp2_with fail
    go_loopw [30] (fun i wr => ∃ j : Nat, j ≤ len ∧ i = .int .i64 j ∧ Hid (Turned p w1 wr) ∧ Hid (wr.heap[p]? = some (.cells #[.int .i64 (L - 1 - cntP d ts j)] 3 (0, 0))) ∧ Hid (RightP d ts (9 - deep) L j)) (fun i _ => len - (intOf i).toNat)
    case atStart => exact ⟨0, Nat.zero_le _, rfl, Turned.refl _ _, by show _ = _; rw [HP1.out]; show _ = some (Obj.cells #[.int .i64 (L - 1 - ((0 : Nat) : Int))] 3 (0, 0)); rw [show L - 1 - ((0 : Nat) : Int) = L - 1 from by omega], ⟨fun i t hi => by omega, by show ((1 + 0 : Nat) : Int) ≤ L; omega⟩⟩
    case round =>
      obtain ⟨j, hj, rfl, hTr, hPr, hR⟩ := hrel
      have hTw : Turned p w wr := hT1.trans hTr.out
      have hb1 : Below w0.heap.size w0 wr := hb0.trans (hTw.below hp hb0.size)
      have hpr : p < wr.heap.size := by have := hTw.size; omega
      by_cases hjl : j < len
      · obtain ⟨t, ht⟩ : ∃ t, ts[j]? = some t := ⟨_, List.getElem?_eq_getElem (by rw [HL.out]; exact hjl)⟩
        obtain ⟨b1, o1, lv1, rfl, F1, L1⟩ := HE.out j t ht
        obtain ⟨a2, c2, hlv⟩ := L1.len
        obtain ⟨l2, hl2⟩ : ∃ l2, t.L.length = l2 := ⟨_, rfl⟩
        rw [hl2] at hlv
        subst hlv
        obtain ⟨_, _, hst, hwt⟩ := HWF.out.2 t (List.mem_of_getElem? ht)
        obtain ⟨f0, f1, f2, f3⟩ := F1.later hb1
        have hstep := cntP_succ d ts j t ht
        have hle := hR.out.2
        have hC : ∀ X, Below wr.heap.size wr X → Calls Try.prog 95 #[.agg #[.int .i64 t.K, .int .i64 t.N, .string t.S, .slice a2 l2 c2], .int .i64 (deep + 1), .pointer (some ⟨p, 0, none⟩)] X fun e w' => ∃ b : Bool, e = .returned (.bool b) ∧
            (b = true → Hid (w'.heap[p]? = some (.cells #[.int .i64 (L - 1 - cntP d ts (j + 1))] 3 (0, 0))) ∧ Hid (RightP d ts (9 - deep) L (j + 1))) ∧ (b = false → Hid (¬ Right (d + 1) k n s ts (9 - deep) L)) ∧ Hid (Turned p w1 w') := fun X hX => by
          refine (HI.out w0 t.K t.N t.S (.slice a2 l2 c2) t.L (deep + 1) (L - 1 - cntP d ts j) p X L1 hwt hst (hb1.trans (hX.mono hb1.size)) hp ((hX.block _ hpr).trans hPr.out) (by omega) (by omega) (by omega) (by omega)).mono ?_
          rintro e w' ⟨b, rfl, q1, q2, q3⟩
          refine ⟨b, rfl, fun hb => ⟨?_, ?_⟩, fun hb => ?_, hTr.out.trans ((Turned.of_below hX).trans q3)⟩
          · show _ = _
            rw [q2 hb]
            rw [show L - 1 - (cntP d ts j : Int) - ((1 + cntL d t.L : Nat) : Int) = L - 1 - (cntP d ts (j + 1) : Int) from by omega]
          · refine rightP_step ht hR.out ?_
            have := q1.1 hb
            rw [show 9 - (deep + 1) = 9 - deep - 1 from by omega] at this
            exact this
          · intro hRR
            have := right_elem ht hRR
            rw [show 9 - deep - 1 = 9 - (deep + 1) from by omega] at this
            rw [q1.2 this] at hb
            cases hb
        have hjl' : (j : Int) < (len : Int) := by omega
        have HTR : Hid (Turned p w1 wr) := hTr
        clear F1 L1 hwt hst ht hR hPr hTr hTw hl2
        go_wp2_with fail
        refine (hC _ ((Below.refl _ _).alloc (Nat.le_refl _) _)).mono ?_
        clear hC
        rintro e w' ⟨b, rfl, q1, q2, q3⟩
        cases b
        · have HN := q2 rfl
          have hT2 : Turned p w w' := hT1.trans q3.out
          clear q1 q2
          go_wp2_with fail
          go_ret
          exact ⟨false, rfl, iff_no HN.out, (fun e => Bool.noConfusion e), hT2⟩
        · obtain ⟨q4, q5⟩ := q1 rfl
          clear q1 q2
          go_wp2_with fail
          go_roundw
          case rel => exact ⟨j + 1, by omega, by go_num, q3, q4, q5⟩
          case measure => simp [intOf]; omega
      · have HR : Hid (Right (d + 1) k n s ts (9 - deep) L) := rightP_all (by omega) H3.out (by have := HL.out; omega) hR.out
        have HY : Hid (wr.heap[p]? = some (.cells #[.int .i64 (L - (1 + cntL (d + 1) ts : Nat))] 3 (0, 0))) := by
          have := cntP_all d ts j (by have := HL.out; omega)
          show _ = _
          rw [hPr.out, show L - 1 - (cntP d ts j : Int) = L - ((1 + cntL (d + 1) ts : Nat) : Int) from by omega]
        have hjl' : decide ((j : Int) < (len : Int)) = false := by simp; omega
        clear hPr hTr hR
        go_wp2_with fail
        go_ret
        exact ⟨true, rfl, iff_yes HR.out, fun _ => HY.out, hTw⟩

set_option maxHeartbeats 400000 in
/-- The program's check of a term: right, at most 8 deep, at most 300 in all. -/
theorem termOk_any (d : Nat) (k n : Int) (s : ByteArray) (l : Value) (ts : List (Tm d)) (w : World) (hr : RdL d w l ts) (hw : WfL d ts) (hs : s.size ≤ 9223372036854775807) :
    Calls Try.prog 81 #[.agg #[.int .i64 k, .int .i64 n, .string s, l]] w fun e w' => ∃ b : Bool, e = .returned (.bool b) ∧ (b = true ↔ Right d k n s ts 8 300) ∧ Below w.heap.size w w' := by
  obtain ⟨a, c, e⟩ := hr.len
  obtain ⟨W, hW⟩ : ∃ W, W = w.alloc (.cells #[.int .i64 k, .int .i64 n, .string s, .slice a ts.length c] 53) := ⟨_, rfl⟩
  have hA : Below w.heap.size w W := by rw [hW]; exact (Below.refl _ _).alloc (Nat.le_refl _) _
  have hWz : W.heap.size = w.heap.size + 1 := by rw [hW]; simp
  obtain ⟨V, hV⟩ : ∃ V, V = W.alloc (.cells #[.int .i64 300] 3) := ⟨_, rfl⟩
  have hA2 : Below W.heap.size W V := by rw [hV]; exact (Below.refl _ _).alloc (Nat.le_refl _) _
  have hVp : V.heap[w.heap.size + 1]? = some (.cells #[.int .i64 300] 3 (0, 0)) := by rw [hV, ← hWz]; exact heap_alloc_new W _
  have hBV : Below w.heap.size w V := hA.trans (hA2.mono hA.size)
  have hC := termFits_any d w k n s l ts 1 300 (w.heap.size + 1) V hr hw hs hBV (by omega) hVp (by omega) (by omega) (by omega) (by omega)
  rw [e] at hC ⊢
  rw [show (9 : Int) - 1 = 8 from rfl, hV, hW] at hC
  have HW : Hid (W = _) := hW
  have HV : Hid (V = _) := hV
  clear hr hV hW hVp e
  go_enter Try.func81, Try.ntmps81
  go_wp2_with fail
  refine hC.mono ?_
  clear hC
  rintro e w1 ⟨b, rfl, hb, _, hT⟩
  rw [← HW.out, ← HV.out] at hT
  have hb2 : Below w.heap.size w w1 := hBV.trans (hT.below (by omega) hBV.size)
  have HB : Hid (b = true ↔ Right d k n s ts 8 300) := hb
  clear hb hT hBV hA hA2 HW HV hWz
  go_wp2_with fail
  go_ret
  exact ⟨b, rfl, HB.out, hb2⟩

end Go.Proofs.Ytgmddookohkhlaa

/- An atom as an expression: what the program tells of it. -/
namespace Go.Proofs.Ytgmddookohkhlaa
open Go.RowKit
set_option linter.unusedVariables false

/-- One of the three words. -/
def Wrd (s : ByteArray) : Prop := s.toList = [99, 97, 115, 101] ∨ s.toList = [111, 102] ∨ s.toList = [101, 110, 100]

theorem wrd_iff {s : ByteArray} {b x1 x2 x3 : Bool} (h1 : (s.toList == [99, 97, 115, 101]) = x1) (h2 : (s.toList == [111, 102]) = x2) (h3 : (s.toList == [101, 110, 100]) = x3) (hb : b = true ↔ AtomP s) :
    ((b && !x1 && !x2 && !x3) = true ↔ AtomP s ∧ ¬ Wrd s) := by
  subst h1 h2 h3
  unfold Wrd
  rw [← hb]
  simp [and_assoc]

end Go.Proofs.Ytgmddookohkhlaa

/- The program's and the model's tests of a byte of a token. -/
namespace Go.Proofs.Ytgmddookohkhlaa
open Go.RowKit
set_option linter.unusedVariables false

/-- A byte that a name may begin with. -/
def lgB (x : Int) : Bool := decide (65 ≤ x ∧ x ≤ 90) || x == 95
/-- A small letter. -/
def smB (x : Int) : Bool := decide (97 ≤ x ∧ x ≤ 122)
/-- A digit. -/
def dgB (x : Int) : Bool := decide (48 ≤ x ∧ x ≤ 57)
/-- A byte that a name may have. -/
def nmB (x : Int) : Bool := atB x || lgB x

end Go.Proofs.Ytgmddookohkhlaa

/- How far a run of bytes goes, and what a name is: the program's and the model's. -/
namespace Go.Proofs.Ytgmddookohkhlaa
open Go.RowKit
set_option linter.unusedVariables false

/-- The run of bytes of which p holds goes from place i to place k. -/
def RunTo (p : Int → Bool) (s : ByteArray) (i k : Nat) : Prop :=
  i ≤ k ∧ k ≤ s.size ∧ (∀ (j : Nat) (h : j < s.size), i ≤ j → j < k → p (s[j].toNat : Int) = true) ∧ (∀ h : k < s.size, p (s[k].toNat : Int) = false)

theorem RunTo.unique {p : Int → Bool} {s : ByteArray} {i k k' : Nat} (h : RunTo p s i k) (h' : RunTo p s i k') : k = k' := by
  obtain ⟨a1, a2, a3, a4⟩ := h
  obtain ⟨b1, b2, b3, b4⟩ := h'
  rcases Nat.lt_trichotomy k k' with h | h | h
  · have := a4 (by omega); rw [b3 k (by omega) a1 h] at this; cases this
  · exact h
  · have := b4 (by omega); rw [a3 k' (by omega) b1 h] at this; cases this

/-- What a test of a byte answers. -/
def ByteTold (g : Nat) (p : Int → Bool) : Prop := ∀ (x : Int) (w : World), 0 ≤ x → x ≤ 255 → Calls Try.prog g #[.int .u8 x] w fun e w' => e = .returned (.bool (p x)) ∧ w = w'

theorem enters_isDigit : ∀ args w, (callFunc 112 args).run Try.prog w = .ok (.enter 112 args) w := enters_of Try.func112 (by kernel_rfl) rfl
theorem enters_isAtomByte : ∀ args w, (callFunc 94 args).run Try.prog w = .ok (.enter 94 args) w := enters_of Try.func94 (by kernel_rfl) rfl
/-- A byte that a name may have at place i. -/
def NmOk (i : Nat) (x : Int) : Prop := lgB x = true ∨ (i ≠ 0 ∧ (smB x = true ∨ dgB x = true))

/-- A name. -/
def NameP (s : ByteArray) : Prop := (∀ (i : Nat) (h : i < s.size), NmOk i (s[i].toNat : Int)) ∧ 1 ≤ s.size ∧ s.size ≤ 20

theorem nmB_iff (x : Int) : nmB x = true ↔ lgB x = true ∨ smB x = true ∨ dgB x = true := by
  simp only [nmB, atB, lgB, smB, dgB, Bool.or_eq_true, decide_eq_true_eq, beq_iff_eq]
  constructor <;> intro h <;> omega

theorem nameP_iff (s : ByteArray) (h0 : 0 < s.size) : NameP s ↔ s.size ≤ 20 ∧ lgB (s[0].toNat : Int) = true ∧ RunTo nmB s 0 s.size := by
  constructor
  · rintro ⟨h1, h2, h3⟩
    refine ⟨h3, ?_, Nat.zero_le _, Nat.le_refl _, fun j hj _ _ => ?_, fun h => absurd h (Nat.lt_irrefl _)⟩
    · rcases h1 0 h0 with h | h
      · exact h
      · exact absurd rfl h.1
    · rw [nmB_iff]
      rcases h1 j hj with h | h
      · exact .inl h
      · exact .inr h.2
  · rintro ⟨h1, h2, _, _, h3, _⟩
    refine ⟨fun i hi => ?_, h0, h1⟩
    by_cases hi0 : i = 0
    · subst hi0; exact .inl h2
    · rcases (nmB_iff _).1 (h3 i hi (Nat.zero_le _) hi) with h | h
      · exact .inl h
      · exact .inr ⟨hi0, h⟩

end Go.Proofs.Ytgmddookohkhlaa

/- Names and runs, the model's; names, the program's. -/
namespace Go.Proofs.Ytgmddookohkhlaa
open Go.RowKit
set_option linter.unusedVariables false

end Go.Proofs.Ytgmddookohkhlaa
