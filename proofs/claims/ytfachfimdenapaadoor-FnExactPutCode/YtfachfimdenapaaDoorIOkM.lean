/- The program's checks of an atom and of a term's shape: they tell what is right. -/
import Derived.Test.YtfachfimdenapaaDoorTmM
import Derived.Test.YtfachfimdenapaaDoorFormM
import Derived.Shelf.Abstract
namespace Go.Proofs.YtfachfimdenapaaDoor
open Go.RowKit
set_option linter.unusedVariables false

theorem isSmall_any (x : Int) (w : World) :
    Calls Tryd.prog 82 #[.int .u8 x] w fun e w' => e = .returned (.bool (decide (97 ≤ x ∧ x ≤ 122))) ∧ w = w' := by
  by_cases h1 : 97 ≤ x
  · by_cases h2 : x ≤ 122
    · have hd : decide (97 ≤ x ∧ x ≤ 122) = true := by simp [h1, h2]
      rw [hd]
      go_enter Tryd.func82, Tryd.ntmps82
      go_wp2
      go_ret
      exact ⟨rfl, rfl⟩
    · have hd : decide (97 ≤ x ∧ x ≤ 122) = false := by simp; omega
      rw [hd]
      go_enter Tryd.func82, Tryd.ntmps82
      go_wp2
      go_ret
      exact ⟨rfl, rfl⟩
  · have hd : decide (97 ≤ x ∧ x ≤ 122) = false := by simp; omega
    rw [hd]
    go_enter Tryd.func82, Tryd.ntmps82
    go_wp2
    go_ret
    exact ⟨rfl, rfl⟩

theorem isDigit_any (x : Int) (w : World) :
    Calls Tryd.prog 87 #[.int .u8 x] w fun e w' => e = .returned (.bool (decide (48 ≤ x ∧ x ≤ 57))) ∧ w = w' := by
  by_cases h1 : 48 ≤ x
  · by_cases h2 : x ≤ 57
    · have hd : decide (48 ≤ x ∧ x ≤ 57) = true := by simp [h1, h2]
      rw [hd]
      go_enter Tryd.func87, Tryd.ntmps87
      go_wp2
      go_ret
      exact ⟨rfl, rfl⟩
    · have hd : decide (48 ≤ x ∧ x ≤ 57) = false := by simp; omega
      rw [hd]
      go_enter Tryd.func87, Tryd.ntmps87
      go_wp2
      go_ret
      exact ⟨rfl, rfl⟩
  · have hd : decide (48 ≤ x ∧ x ≤ 57) = false := by simp; omega
    rw [hd]
    go_enter Tryd.func87, Tryd.ntmps87
    go_wp2
    go_ret
    exact ⟨rfl, rfl⟩

/-- A byte that an atom may have behind its first. -/
def atB (x : Int) : Bool := decide (97 ≤ x ∧ x ≤ 122) || decide (48 ≤ x ∧ x ≤ 57) || x == 95

theorem isAtomByte_any (x : Int) (w : World) :
    Calls Tryd.prog 83 #[.int .u8 x] w fun e w' => e = .returned (.bool (atB x)) ∧ w = w' := by
  have hL := isSmall_any x w
  have hL2 := isDigit_any x w
  by_cases h1 : 97 ≤ x ∧ x ≤ 122
  · rw [show decide (97 ≤ x ∧ x ≤ 122) = true from by simp [h1]] at hL
    rw [show atB x = true from by simp [atB, h1]]
    clear h1 hL2
    go_enter Tryd.func83, Tryd.ntmps83
    go_wp2_with fail
    refine hL.mono ?_
    clear hL
    rintro e w' ⟨rfl, rfl⟩
    go_wp2_with fail
    go_ret
    exact ⟨rfl, rfl⟩
  rw [show decide (97 ≤ x ∧ x ≤ 122) = false from by simp; omega] at hL
  by_cases h2 : 48 ≤ x ∧ x ≤ 57
  · rw [show decide (48 ≤ x ∧ x ≤ 57) = true from by simp [h2]] at hL2
    rw [show atB x = true from by simp [atB, h2]]
    clear h1 h2
    go_enter Tryd.func83, Tryd.ntmps83
    go_wp2_with fail
    refine hL.mono ?_
    clear hL
    rintro e w' ⟨rfl, rfl⟩
    go_wp2_with fail
    refine hL2.mono ?_
    clear hL2
    rintro e w' ⟨rfl, rfl⟩
    go_wp2_with fail
    go_ret
    exact ⟨rfl, rfl⟩
  rw [show decide (48 ≤ x ∧ x ≤ 57) = false from by simp; omega] at hL2
  have hb : atB x = (x == 95) := by
    have e1 : decide (97 ≤ x ∧ x ≤ 122) = false := by simp; omega
    have e2 : decide (48 ≤ x ∧ x ≤ 57) = false := by simp; omega
    simp only [atB, e1, e2, Bool.false_or]
  rw [hb]
  clear h1 h2 hb
  go_enter Tryd.func83, Tryd.ntmps83
  go_wp2_with fail
  refine hL.mono ?_
  clear hL
  rintro e w' ⟨rfl, rfl⟩
  go_wp2_with fail
  refine hL2.mono ?_
  clear hL2
  rintro e w' ⟨rfl, rfl⟩
  go_wp2_with fail
  go_ret
  exact ⟨rfl, rfl⟩

theorem atB_iff (x : Int) : atB x = true ↔ (97 ≤ x ∧ x ≤ 122) ∨ (48 ≤ x ∧ x ≤ 57) ∨ x = 95 := by
  simp only [atB, Bool.or_eq_true, decide_eq_true_eq, beq_iff_eq, or_assoc]

set_option maxHeartbeats 1000000 in
theorem atomOk_any (s : ByteArray) (w : World) (hs : s.size ≤ 9223372036854775807) :
    Calls Tryd.prog 75 #[.string s] w fun e w' => ∃ b : Bool, e = .returned (.bool b) ∧ (b = true ↔ AtomP s) ∧ w = w' := by
  by_cases h0 : s.size < 1
  · have HF : Hid (¬ AtomP s) := fun h => by have := h.2.1; omega
    have hz : s.size = 0 := by omega
    have hb : decide ((s.size : Int) < 1) = true := by rw [hz]; rfl
    clear h0 hs hz
    go_enter Tryd.func75, Tryd.ntmps75
    go_wp2_with fail
    go_ret
    exact ⟨false, rfl, iff_no HF.out, rfl⟩
  by_cases h1 : s.size ≤ 20
  case neg =>
    have HF : Hid (¬ AtomP s) := fun h => by have := h.2.2; omega
    have hb : decide ((20 : Int) < s.size) = true := by simp; omega
    have hb2 : decide ((s.size : Int) < 1) = false := by simp; omega
    clear h0 h1 hs
    go_enter Tryd.func75, Tryd.ntmps75
    go_wp2
    go_ret
    exact ⟨false, rfl, iff_no HF.out, rfl⟩
  have hlt0 : 0 < s.size := by omega
  obtain ⟨x0, hx0⟩ : ∃ x, (s[0].toNat : Int) = x := ⟨_, rfl⟩
  have HX0 : Hid ((s[0].toNat : Int) = x0) := hx0
  have hL := isSmall_any x0 w
  by_cases hsm0 : 97 ≤ x0 ∧ x0 ≤ 122
  case neg =>
    rw [show decide (97 ≤ x0 ∧ x0 ≤ 122) = false from by simp; omega] at hL
    have HF : Hid (¬ AtomP s) := fun h => by
      have := h.1 0 hlt0
      rw [HX0.out] at this
      rcases this with h | h
      · exact hsm0 h
      · exact h.1 rfl
    clear hsm0
    go_enter Tryd.func75, Tryd.ntmps75
    go_wp2_with fail
    refine hL.mono ?_
    clear hL
    rintro e w' ⟨rfl, rfl⟩
    go_wp2
    go_ret
    exact ⟨false, rfl, iff_no HF.out, rfl⟩
  rw [show decide (97 ≤ x0 ∧ x0 ≤ 122) = true from by simp [hsm0]] at hL
  have HS0 : Hid (97 ≤ x0 ∧ x0 ≤ 122) := hsm0
  clear hsm0
  go_enter Tryd.func75, Tryd.ntmps75
  go_wp2_with fail
  refine hL.mono ?_
  clear hL
  rintro e w' ⟨rfl, rfl⟩
  clear hx0
  go_wp2_with fail
  go_loop [20] (fun i => ∃ k : Nat, k ≤ s.size ∧ i = .int .i64 k ∧ Hid (∀ (j : Nat) (h : j < s.size), j < k → ChOk j (s[j].toNat : Int))) (fun i => s.size - (intOf i).toNat)
  case atStart => exact ⟨0, Nat.zero_le _, rfl, fun j _ hj => by omega⟩
  case round =>
    obtain ⟨k, hk, rfl, HD⟩ := hrel
    by_cases hlt : k < s.size
    · obtain ⟨x, hx⟩ : ∃ x, (s[k].toNat : Int) = x := ⟨_, rfl⟩
      have HX : Hid ((s[k].toNat : Int) = x) := hx
      have HN : Hid (ChOk k x → ∀ (j : Nat) (h : j < s.size), j < k + 1 → ChOk j (s[j].toNat : Int)) := fun hc j hj hjk => by
        by_cases h : j < k
        · exact HD.out j hj h
        · obtain rfl : j = k := by omega
          rw [HX.out]; exact hc
      have HF : Hid (¬ ChOk k x → ¬ AtomP s) := fun hc ha => hc (by rw [← HX.out]; exact ha.1 k hlt)
      have HZ : Hid (k = 0 → 97 ≤ x ∧ x ≤ 122) := fun h => by subst h; rw [← HX.out, HX0.out]; exact HS0.out
      have hL := isAtomByte_any x w
      by_cases hat : atB x = true
      · rw [hat] at hL
        have HRR : Hid (∀ (j : Nat) (h : j < s.size), j < k + 1 → ChOk j (s[j].toNat : Int)) := HN.out (by
          by_cases hk0 : k = 0
          · exact .inl (HZ.out hk0)
          · rcases (atB_iff x).1 hat with h | h
            · exact .inl h
            · exact .inr ⟨hk0, h⟩)
        clear HN HF HX HD HZ hat
        go_wp2_with fail
        refine hL.mono ?_
        clear hL
        rintro e w' ⟨rfl, rfl⟩
        go_wp2_with fail
        go_round
        case rel => exact ⟨k + 1, by omega, by go_num, HRR⟩
        case measure => simp [intOf]; omega
      · have hatf : atB x = false := by simpa using hat
        rw [hatf] at hL
        have HR : Hid (¬ AtomP s) := HF.out (fun h => hat ((atB_iff x).2 (by rcases h with h | h; exact .inl h; exact .inr h.2)))
        clear HN HF HX HD HZ hat hatf
        go_wp2_with fail
        refine hL.mono ?_
        clear hL
        rintro e w' ⟨rfl, rfl⟩
        go_wp2_with fail
        go_ret
        exact ⟨false, rfl, iff_no HR.out, rfl⟩
    · have HF : Hid (AtomP s) := ⟨fun j hj => HD.out j hj (by omega), by omega, h1⟩
      have hb : decide ((k : Int) < s.size) = false := by simp; omega
      clear hb HD
      go_wp2_with fail
      go_ret
      exact .inr ⟨rfl, HF.out, rfl⟩

end Go.Proofs.YtfachfimdenapaaDoor

/- The program's check of a whole term: it tells what is right. -/
namespace Go.Proofs.YtfachfimdenapaaDoor
open Go.RowKit
set_option linter.unusedVariables false

/-- Only block p was written; new ones may have come. -/
structure Turned (p : Nat) (w w' : World) : Prop where
  os : w'.os = w.os
  tape : w'.tape = w.tape
  output : w'.output = w.output
  size : w.heap.size ≤ w'.heap.size
  block : ∀ g, g < w.heap.size → g ≠ p → w'.heap[g]? = w.heap[g]?

theorem Turned.refl (p : Nat) (w : World) : Turned p w w := ⟨rfl, rfl, rfl, Nat.le_refl _, fun _ _ _ => rfl⟩
theorem Turned.trans {p : Nat} {a b c : World} (h : Turned p a b) (k : Turned p b c) : Turned p a c :=
  ⟨k.os.trans h.os, k.tape.trans h.tape, k.output.trans h.output, Nat.le_trans h.size k.size, fun g hg hn => (k.block g (Nat.lt_of_lt_of_le hg h.size) hn).trans (h.block g hg hn)⟩
theorem Turned.of_below {p : Nat} {a b : World} (h : Below a.heap.size a b) : Turned p a b := ⟨h.os, h.tape, h.output, h.size, fun g hg _ => h.block g hg⟩
theorem Turned.of_set (w : World) (g o : Nat) (v : Value) : Turned g w (w.setCell ⟨g, o, none⟩ v) :=
  ⟨rfl, rfl, rfl, by simp, fun j _ hn => heap_setCell_other w ⟨g, o, none⟩ j v hn⟩
/-- What lies below the block is as it was. -/
theorem Turned.below {p B : Nat} {a b : World} (h : Turned p a b) (hp : B ≤ p) (hB : B ≤ a.heap.size) : Below B a b := ⟨h.os, h.tape, h.output, h.size, fun g hg => h.block g (by omega) (by omega)⟩

/-- The contract of the check of a term, at a depth, with a count of how many may be left. -/
def FitC (f d : Nat) : Prop := ∀ (w0 : World) (k n : Int) (s : ByteArray) (l : Value) (ts : List (Tm d)) (deep L : Int) (p : Nat) (w : World), RdL d w0 l ts → WfL d ts → s.size ≤ 9223372036854775807 →
  Below w0.heap.size w0 w → w0.heap.size ≤ p → w.heap[p]? = some (.cells #[.int .i64 L] 3 (0, 0)) → 1 ≤ deep → deep ≤ 1000 → 0 ≤ L → L ≤ 1000000 →
  Calls Tryd.prog f #[.agg #[.int .i64 k, .int .i64 n, .string s, l], .int .i64 deep, .pointer (some ⟨p, 0, none⟩)] w fun e w' => ∃ b : Bool, e = .returned (.bool b) ∧ (b = true ↔ Right d k n s ts (9 - deep) L) ∧
    (b = true → w'.heap[p]? = some (.cells #[.int .i64 (L - (1 + cntL d ts : Nat))] 3 (0, 0))) ∧ Turned p w w'

end Go.Proofs.YtfachfimdenapaaDoor

/- An atom as an expression: what the program tells of it. -/
namespace Go.Proofs.YtfachfimdenapaaDoor
open Go.RowKit
set_option linter.unusedVariables false

/-- One of the three words. -/
def Wrd (s : ByteArray) : Prop := s.toList = [99, 97, 115, 101] ∨ s.toList = [111, 102] ∨ s.toList = [101, 110, 100]

theorem wrd_iff {s : ByteArray} {b x1 x2 x3 : Bool} (h1 : (s.toList == [99, 97, 115, 101]) = x1) (h2 : (s.toList == [111, 102]) = x2) (h3 : (s.toList == [101, 110, 100]) = x3) (hb : b = true ↔ AtomP s) :
    ((b && !x1 && !x2 && !x3) = true ↔ AtomP s ∧ ¬ Wrd s) := by
  subst h1 h2 h3
  unfold Wrd
  rw [← hb]
  simp [and_assoc]

theorem exprAtomOk_any (s : ByteArray) (w : World) (hs : s.size ≤ 9223372036854775807) :
    Calls Tryd.prog 70 #[.string s] w fun e w' => ∃ b : Bool, e = .returned (.bool b) ∧ (b = true ↔ AtomP s ∧ ¬ Wrd s) ∧ w = w' := by
  have hA := atomOk_any s w hs
  obtain ⟨x1, e1⟩ : ∃ x, (s.toList == [99, 97, 115, 101]) = x := ⟨_, rfl⟩
  obtain ⟨x2, e2⟩ : ∃ x, (s.toList == [111, 102]) = x := ⟨_, rfl⟩
  obtain ⟨x3, e3⟩ : ∃ x, (s.toList == [101, 110, 100]) = x := ⟨_, rfl⟩
  have HE : Hid (∀ b : Bool, (b = true ↔ AtomP s) → ((b && !x1 && !x2 && !x3) = true ↔ AtomP s ∧ ¬ Wrd s)) := fun b hb => wrd_iff e1 e2 e3 hb
  go_enter Tryd.func70, Tryd.ntmps70
  go_wp2_with fail
  refine hA.mono ?_
  clear hA
  rintro e w' ⟨b, rfl, hb, rfl⟩
  have HB := HE.out b hb
  clear hb HE hs
  cases b
  · go_wp2_with fail
    go_ret
    exact ⟨false, rfl, HB, rfl⟩
  · cases x1
    · cases x2
      · cases x3
        · go_wp2_with fail
          go_ret
          exact ⟨true, rfl, HB, rfl⟩
        · go_wp2_with fail
          go_ret
          exact ⟨false, rfl, HB, rfl⟩
      · go_wp2_with fail
        go_ret
        exact ⟨false, rfl, HB, rfl⟩
    · go_wp2_with fail
      go_ret
      exact ⟨false, rfl, HB, rfl⟩

end Go.Proofs.YtfachfimdenapaaDoor

/- The program's and the model's tests of a byte of a token. -/
namespace Go.Proofs.YtfachfimdenapaaDoor
open Go.RowKit
set_option linter.unusedVariables false

/-- A byte that a name may begin with. -/
def lgB (x : Int) : Bool := decide (65 ≤ x ∧ x ≤ 90) || x == 95
/-- A small letter. -/
def smB (x : Int) : Bool := decide (97 ≤ x ∧ x ≤ 122)
/-- A digit. -/
def dgB (x : Int) : Bool := decide (48 ≤ x ∧ x ≤ 57)
/-- A byte that a name may have. -/
def nmB (x : Int) : Bool := atB x || lgB x

end Go.Proofs.YtfachfimdenapaaDoor

/- How far a run of bytes goes, and what a name is: the program's and the model's. -/
namespace Go.Proofs.YtfachfimdenapaaDoor
open Go.RowKit
set_option linter.unusedVariables false

/-- The run of bytes of which p holds goes from place i to place k. -/
def RunTo (p : Int → Bool) (s : ByteArray) (i k : Nat) : Prop :=
  i ≤ k ∧ k ≤ s.size ∧ (∀ (j : Nat) (h : j < s.size), i ≤ j → j < k → p (s[j].toNat : Int) = true) ∧ (∀ h : k < s.size, p (s[k].toNat : Int) = false)

theorem RunTo.unique {p : Int → Bool} {s : ByteArray} {i k k' : Nat} (h : RunTo p s i k) (h' : RunTo p s i k') : k = k' := by
  obtain ⟨a1, a2, a3, a4⟩ := h
  obtain ⟨b1, b2, b3, b4⟩ := h'
  rcases Nat.lt_trichotomy k k' with h | h | h
  · have := a4 (by omega); rw [b3 k (by omega) a1 h] at this; cases this
  · exact h
  · have := b4 (by omega); rw [a3 k' (by omega) b1 h] at this; cases this

/-- What a test of a byte answers. -/
def ByteTold (g : Nat) (p : Int → Bool) : Prop := ∀ (x : Int) (w : World), 0 ≤ x → x ≤ 255 → Calls Tryd.prog g #[.int .u8 x] w fun e w' => e = .returned (.bool (p x)) ∧ w = w'

theorem enters_isDigit : ∀ args w, (callFunc 87 args).run Tryd.prog w = .ok (.enter 87 args) w := enters_of Tryd.func87 (by kernel_rfl) rfl
theorem enters_isAtomByte : ∀ args w, (callFunc 83 args).run Tryd.prog w = .ok (.enter 83 args) w := enters_of Tryd.func83 (by kernel_rfl) rfl
/-- A byte that a name may have at place i. -/
def NmOk (i : Nat) (x : Int) : Prop := lgB x = true ∨ (i ≠ 0 ∧ (smB x = true ∨ dgB x = true))

/-- A name. -/
def NameP (s : ByteArray) : Prop := (∀ (i : Nat) (h : i < s.size), NmOk i (s[i].toNat : Int)) ∧ 1 ≤ s.size ∧ s.size ≤ 20

theorem nmB_iff (x : Int) : nmB x = true ↔ lgB x = true ∨ smB x = true ∨ dgB x = true := by
  simp only [nmB, atB, lgB, smB, dgB, Bool.or_eq_true, decide_eq_true_eq, beq_iff_eq]
  constructor <;> intro h <;> omega

theorem nameP_iff (s : ByteArray) (h0 : 0 < s.size) : NameP s ↔ s.size ≤ 20 ∧ lgB (s[0].toNat : Int) = true ∧ RunTo nmB s 0 s.size := by
  constructor
  · rintro ⟨h1, h2, h3⟩
    refine ⟨h3, ?_, Nat.zero_le _, Nat.le_refl _, fun j hj _ _ => ?_, fun h => absurd h (Nat.lt_irrefl _)⟩
    · rcases h1 0 h0 with h | h
      · exact h
      · exact absurd rfl h.1
    · rw [nmB_iff]
      rcases h1 j hj with h | h
      · exact .inl h
      · exact .inr h.2
  · rintro ⟨h1, h2, _, _, h3, _⟩
    refine ⟨fun i hi => ?_, h0, h1⟩
    by_cases hi0 : i = 0
    · subst hi0; exact .inl h2
    · rcases (nmB_iff _).1 (h3 i hi (Nat.zero_le _) hi) with h | h
      · exact .inl h
      · exact .inr ⟨hi0, h⟩

end Go.Proofs.YtfachfimdenapaaDoor

/- Names and runs, the model's; names, the program's. -/
namespace Go.Proofs.YtfachfimdenapaaDoor
open Go.RowKit
set_option linter.unusedVariables false

end Go.Proofs.YtfachfimdenapaaDoor
