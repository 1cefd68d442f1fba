/- What the law of drawn operations asks, as data. -/
import Derived.Test.YtfegiccjfepnnaaDoorOp0M
import Derived.Test.YtfegiccjfepnnaaDoorOrdM
namespace Go.Proofs.YtfegiccjfepnnaaDoor
open Go.RowKit
set_option linter.unusedVariables false

def opPlus : ByteArray := ⟨#[43]⟩
def opMinus : ByteArray := ⟨#[45]⟩
def opTimes : ByteArray := ⟨#[42]⟩
def opSame : ByteArray := ⟨#[61, 61]⟩
def opLess : ByteArray := ⟨#[60]⟩
theorem l_plus : opPlus.toList = [43] := by simp [opPlus, ByteArray.toList, ByteArray.toList.loop, ByteArray.size, ByteArray.get!]
theorem l_minus : opMinus.toList = [45] := by simp [opMinus, ByteArray.toList, ByteArray.toList.loop, ByteArray.size, ByteArray.get!]
theorem l_times : opTimes.toList = [42] := by simp [opTimes, ByteArray.toList, ByteArray.toList.loop, ByteArray.size, ByteArray.get!]
theorem l_same : opSame.toList = [61, 61] := by simp [opSame, ByteArray.toList, ByteArray.toList.loop, ByteArray.size, ByteArray.get!]
theorem l_less : opLess.toList = [60] := by simp [opLess, ByteArray.toList, ByteArray.toList.loop, ByteArray.size, ByteArray.get!]

theorem opD_right {op : ByteArray} {d : Nat} {a b : Tm (d + 1)} (ho : OpP op) (ha : RightM d a) (hb : RightM d b) : opD op a b = opG op a b := by
  unfold opD; rw [if_pos ⟨ho, ha, hb⟩]
theorem opD_bad {op : ByteArray} {d : Nat} {a b : Tm (d + 1)} (h : ¬ (RightM d a ∧ RightM d b)) : (opD op a b).2.2.2 = 1 := by
  unfold opD; rw [if_neg fun h' => h h'.2]
theorem opG_num {op : ByteArray} {d : Nat} {a b : Tm (d + 1)} (h1 : op.toList ≠ [61, 61]) (h2 : op.toList ≠ [60]) : opG op a b = if a.K = 1 ∧ b.K = 1 ∧ -1000000000000 ≤ numD op a.N b.N ∧ numD op a.N b.N ≤ 1000000000000 then (1, numD op a.N b.N, ⟨#[]⟩, 0) else (0, 0, ⟨#[]⟩, 3) := by
  unfold opG; rw [if_neg h1, if_neg h2]
theorem num_plus (a b : Int) : numD opPlus a b = a + b := by unfold numD; rw [if_pos l_plus]
theorem num_minus (a b : Int) : numD opMinus a b = a - b := by unfold numD; rw [if_neg (by rw [l_minus]; decide), if_pos l_minus]
theorem num_times (a b : Int) : numD opTimes a b = a * b := by unfold numD; rw [if_neg (by rw [l_times]; decide), if_neg (by rw [l_times]; decide)]

/-- Sums and products are the same either way. -/
theorem opD_comm {op : ByteArray} {d : Nat} {a b : Tm (d + 1)} (ha : RightM d a) (hb : RightM d b) (ho : op = opPlus ∨ op = opTimes) : opD op a b = opD op b a := by
  have hp : OpP op := by rcases ho with rfl | rfl; exact .inl l_plus; exact .inr (.inr (.inl l_times))
  have h1 : op.toList ≠ [61, 61] := by rcases ho with rfl | rfl; rw [l_plus]; decide; rw [l_times]; decide
  have h2 : op.toList ≠ [60] := by rcases ho with rfl | rfl; rw [l_plus]; decide; rw [l_times]; decide
  have hn : numD op a.N b.N = numD op b.N a.N := by
    rcases ho with rfl | rfl
    · rw [num_plus, num_plus, Int.add_comm]
    · rw [num_times, num_times, Int.mul_comm]
  rw [opD_right hp ha hb, opD_right hp hb ha, opG_num h1 h2, opG_num h1 h2, hn]
  by_cases h : a.K = 1 ∧ b.K = 1 ∧ -1000000000000 ≤ numD op b.N a.N ∧ numD op b.N a.N ≤ 1000000000000
  · rw [if_pos h, if_pos ⟨h.2.1, h.1, h.2.2⟩]
  · rw [if_neg h, if_neg fun h' => h ⟨h'.2.1, h'.1, h'.2.2⟩]

theorem empty_of_size {s : ByteArray} (h : s.size = 0) : s = ⟨#[]⟩ := by
  obtain ⟨⟨l⟩⟩ := s
  cases l with
  | nil => rfl
  | cons x r => simp [ByteArray.size] at h
/-- A number that is right. -/
theorem right_int {d : Nat} {a : Tm (d + 1)} (h : RightM d a) (hk : a.K = 1) : a = mk 1 a.N ⟨#[]⟩ [] := by
  have h1 := h.1
  rw [hk] at h1
  obtain ⟨_, h2, h3⟩ := (shape1 _ _ _).1 h1
  have e1 := empty_of_size h2
  have e2 : a.L = [] := List.length_eq_zero_iff.1 h3
  obtain ⟨k, n, s, l⟩ := a
  simp only [Tm.K, Tm.S, Tm.L] at hk e1 e2
  subst hk e1 e2
  rfl
theorem int_right {d : Nat} (n : Int) (h1 : -1000000000000 ≤ n) (h2 : n ≤ 1000000000000) : RightM d (mk 1 n ⟨#[]⟩ []) := by
  refine ⟨(shape1 _ _ _).2 ⟨⟨h1, h2⟩, rfl, rfl⟩, ?_, ?_, ?_⟩
  · cases d with
    | zero => trivial
    | succ d => intro t ht; cases ht
  · cases d with
    | zero => show ((1 + 0 : Nat) : Int) ≤ 8; decide
    | succ d => show ((1 + 0 : Nat) : Int) ≤ 8; decide
  · cases d with
    | zero => show ((1 + 0 : Nat) : Int) ≤ 300; decide
    | succ d => show ((1 + 0 : Nat) : Int) ≤ 300; decide
/-- A difference added again is what it was. -/
theorem opD_back {d : Nat} {a b : Tm (d + 1)} (ha : RightM d a) (hb : RightM d b) (hz : (opD opMinus a b).2.2.2 = 0) :
    ∃ n : Int, a = mk 1 a.N ⟨#[]⟩ [] ∧ opD opMinus a b = (1, n, ⟨#[]⟩, 0) ∧ RightM d (mk 1 n ⟨#[]⟩ []) ∧ opD opPlus (mk (d := d) 1 n ⟨#[]⟩ []) b = (1, a.N, ⟨#[]⟩, 0) := by
  have m1 : opMinus.toList ≠ [61, 61] := by rw [l_minus]; decide
  have m2 : opMinus.toList ≠ [60] := by rw [l_minus]; decide
  have p1 : opPlus.toList ≠ [61, 61] := by rw [l_plus]; decide
  have p2 : opPlus.toList ≠ [60] := by rw [l_plus]; decide
  have e := opD_right (op := opMinus) (.inr (.inl l_minus)) ha hb
  rw [opG_num m1 m2, num_minus] at e
  by_cases h : a.K = 1 ∧ b.K = 1 ∧ -1000000000000 ≤ a.N - b.N ∧ a.N - b.N ≤ 1000000000000
  · rw [if_pos h] at e
    have hr := int_right (d := d) (a.N - b.N) h.2.2.1 h.2.2.2
    have hna := right_num ha h.1
    refine ⟨a.N - b.N, right_int ha h.1, e, hr, ?_⟩
    rw [opD_right (.inl l_plus) hr hb, opG_num p1 p2, num_plus]
    have e3 : (mk (d := d) 1 (a.N - b.N) ⟨#[]⟩ []).N + b.N = a.N := by show a.N - b.N + b.N = a.N; omega
    rw [e3, if_pos ⟨rfl, h.2.1, hna.1, hna.2⟩]
  · rw [if_neg h] at e
    rw [e] at hz
    cases hz
/-- One text is true: less, greater or equal. -/
theorem opG_same {d : Nat} (a b : Tm (d + 1)) : (a = b → opG opSame a b = (2, 0, bTrue, 0)) ∧ (a ≠ b → opG opSame a b = (2, 0, bFalse, 0)) := by
  constructor
  · intro h; unfold opG; rw [if_pos l_same, if_pos h]
  · intro h; unfold opG; rw [if_pos l_same, if_neg h]
theorem opG_less {d : Nat} (a b : Tm (d + 1)) : (Lt (d + 1) a b → opG opLess a b = (2, 0, bTrue, 0)) ∧ (¬ Lt (d + 1) a b → opG opLess a b = (2, 0, bFalse, 0)) := by
  have h0 : opLess.toList ≠ [61, 61] := by rw [l_less]; decide
  constructor
  · intro h; unfold opG; rw [if_neg h0, if_pos l_less, if_pos h]
  · intro h; unfold opG; rw [if_neg h0, if_pos l_less, if_neg h]

end Go.Proofs.YtfegiccjfepnnaaDoor
