/- SameTerm at equal terms, also those of no kind; two drawn terms of one depth; what the law of drawn operations asks. -/
import Derived.Test.YtfegiccjfepnnaaDoorOdM
import Derived.Test.YtfegiccjfepnnaaDoorConvM
import Derived.Test.YtfegiccjfepnnaaDoorOpLM
import Derived.Test.YtfegiccjfepnnaaDoorDrOp1M
namespace Go.Proofs.YtfegiccjfepnnaaDoor
open Go.RowKit
set_option linter.unusedVariables false

theorem RootOk.later {w w' : World} {k n : Int} {s : ByteArray} {la lb : Value} {C : Nat} (h : RootOk w k n s la lb C) (hb : Below w.heap.size w w') : RootOk w' k n s la lb C := by
  obtain ⟨d, ts, h1, h2, h3⟩ := h
  exact ⟨d, ts, h1.later hb, h2.later hb, h3⟩

theorem sameTerm_root (k n : Int) (s : ByteArray) (a1 a2 : Option Addr) (len c1 c2 C : Nat) (w : World) (hok : RootOk w k n s (.slice a1 len c1) (.slice a2 len c2) C) (hcn : C ≤ 300) :
    Calls Tryd.prog 15 #[.agg #[.int .i64 k, .int .i64 n, .string s, .slice a1 len c1], .agg #[.int .i64 k, .int .i64 n, .string s, .slice a2 len c2]] w fun e w' => e = .returned (.bool true) ∧ Below w.heap.size w w' := by
  obtain ⟨W, hW⟩ : ∃ W, W = (w.alloc (.cells #[.int .i64 k, .int .i64 n, .string s, .slice a1 len c1] 28)).alloc (.cells #[.int .i64 k, .int .i64 n, .string s, .slice a2 len c2] 28) := ⟨_, rfl⟩
  have hA : Below w.heap.size w W := by rw [hW]; exact ((Below.refl _ _).alloc (Nat.le_refl _) _).alloc (by simp) _
  have hC1 := orderOf_same k n s a1 a2 len c1 c2 C w hok hcn
  have hC := orderOf_same k n s a1 a2 len c1 c2 C W (hok.later hA) hcn
  clear hok hcn
  rw [hW] at hC
  have HW : Hid (W = _) := hW
  clear hW
  go_enter Tryd.func15, Tryd.ntmps15
  go_wp2_with fail
  first
    | (refine hC1.mono ?_
       rintro e w1 ⟨rfl, hb⟩
       go_wp2_with fail
       go_ret
       exact ⟨rfl, hb⟩)
    | (refine hC.mono ?_
       rintro e w1 ⟨rfl, hb⟩
       rw [← HW.out] at hb
       go_wp2_with fail
       go_ret
       exact ⟨rfl, hA.trans (hb.mono hA.size)⟩)

theorem rd_nil : ∀ (d : Nat) (w : World) (a : Option Addr) (c : Nat), RdL d w (.slice a 0 c) []
  | 0, _, a, c => ⟨a, c, rfl⟩
  | d + 1, _, a, c => ⟨a, c, rfl, fun i t h => by simp at h⟩
theorem ok_nil : ∀ (d : Nat), OkL d []
  | 0 => trivial
  | d + 1 => fun t h => by cases h
/-- SameTerm at two terms without parts. -/
theorem sameTerm_leaf (k n : Int) (s : ByteArray) (a1 a2 : Option Addr) (c1 c2 : Nat) (w : World) (h : SZ k n s 0) :
    Calls Tryd.prog 15 #[.agg #[.int .i64 k, .int .i64 n, .string s, .slice a1 0 c1], .agg #[.int .i64 k, .int .i64 n, .string s, .slice a2 0 c2]] w fun e w' => e = .returned (.bool true) ∧ Below w.heap.size w w' :=
  sameTerm_root k n s a1 a2 0 c1 c2 1 w ⟨0, [], rd_nil 0 w a1 c1, rd_nil 0 w a2 c2, h, ok_nil 0, by rw [cntL_nil]⟩ (by omega)

/-- Two drawn terms, of one depth. -/
theorem two_at {V : World} {lo : Nat} {k1 n1 : Int} {s1 : ByteArray} {v1 : Value} {k2 n2 : Int} {s2 : ByteArray} {v2 : Value} (h1 : AnyT V lo k1 n1 s1 v1 200) (h2 : AnyT V lo k2 n2 s2 v2 200) :
    ∃ (d : Nat) (t1 t2 : List (Tm d)), RdL d V v1 t1 ∧ RdL d V v2 t2 ∧ WfL d t1 ∧ WfL d t2 ∧ s1.size ≤ 100 ∧ s2.size ≤ 100 := by
  obtain ⟨d1, ts1, fp1, o1, _, w1, _, _, z1, _⟩ := h1
  obtain ⟨d2, ts2, fp2, o2, _, w2, _, _, z2, _⟩ := h2
  have c1 := conv_ok d1 (max (depL d1 ts1) (depL d2 ts2)) ts1 (Nat.le_max_left _ _)
  have c2 := conv_ok d2 (max (depL d1 ts1) (depL d2 ts2)) ts2 (Nat.le_max_right _ _)
  exact ⟨_, _, _, c1.2.1 _ _ o1.rd, c2.2.1 _ _ o2.rd, c1.2.2.1 w1, c2.2.2.1 w2, z1, z2⟩

theorem opD_sz {op : ByteArray} {d : Nat} {a b : Tm (d + 1)} (ha : RightM d a) (hb : RightM d b) (ho : op = opPlus ∨ op = opTimes ∨ op = opMinus) : SZ (opD op a b).1 (opD op a b).2.1 (opD op a b).2.2.1 0 := by
  have hp : OpP op := by rcases ho with rfl | rfl | rfl; exact .inl l_plus; exact .inr (.inr (.inl l_times)); exact .inr (.inl l_minus)
  have h1 : op.toList ≠ [61, 61] := by rcases ho with rfl | rfl | rfl; rw [l_plus]; decide; rw [l_times]; decide; rw [l_minus]; decide
  have h2 : op.toList ≠ [60] := by rcases ho with rfl | rfl | rfl; rw [l_plus]; decide; rw [l_times]; decide; rw [l_minus]; decide
  rw [opD_right hp ha hb, opG_num h1 h2]
  by_cases h : a.K = 1 ∧ b.K = 1 ∧ -1000000000000 ≤ numD op a.N b.N ∧ numD op a.N b.N ≤ 1000000000000
  · rw [if_pos h]
    exact .inl ((shape1 _ _ _).2 ⟨h.2.2, rfl, rfl⟩)
  · rw [if_neg h]
    exact .inr ⟨rfl, rfl⟩

theorem opOne {d : Nat} {a b : Tm (d + 1)} (ha : RightM d a) (hb : RightM d b) : ∃ x y z : ByteArray, opD opLess a b = (2, 0, x, 0) ∧ opD opLess b a = (2, 0, y, 0) ∧ opD opSame a b = (2, 0, z, 0) ∧
    ((x = bTrue ∧ y = bFalse ∧ z = bFalse) ∨ (x = bFalse ∧ y = bTrue ∧ z = bFalse) ∨ (x = bFalse ∧ y = bFalse ∧ z = bTrue)) := by
  have ka : OkT (d + 1) a := ⟨ha.1, ha.2.1⟩
  have kb : OkT (d + 1) b := ⟨hb.1, hb.2.1⟩
  have L := lin_Lt (d + 1)
  have pl : OpP opLess := .inr (.inr (.inr (.inr l_less)))
  have ps : OpP opSame := .inr (.inr (.inr (.inl l_same)))
  rw [opD_right pl ha hb, opD_right pl hb ha, opD_right ps ha hb]
  by_cases e : a = b
  · have n1 : ¬ Lt (d + 1) a b := by rw [e]; exact L.irr _ kb
    have n2 : ¬ Lt (d + 1) b a := by rw [e]; exact L.irr _ kb
    exact ⟨_, _, _, (opG_less a b).2 n1, (opG_less b a).2 n2, (opG_same a b).1 e, .inr (.inr ⟨rfl, rfl, rfl⟩)⟩
  · rcases L.tri _ _ ka kb e with h | h
    · have n2 : ¬ Lt (d + 1) b a := fun h' => L.irr _ ka (L.tra _ _ _ ka kb ka h h')
      exact ⟨_, _, _, (opG_less a b).1 h, (opG_less b a).2 n2, (opG_same a b).2 e, .inl ⟨rfl, rfl, rfl⟩⟩
    · have n1 : ¬ Lt (d + 1) a b := fun h' => L.irr _ ka (L.tra _ _ _ ka kb ka h' h)
      exact ⟨_, _, _, (opG_less a b).2 n1, (opG_less b a).1 h, (opG_same a b).2 e, .inr (.inl ⟨rfl, rfl, rfl⟩)⟩

end Go.Proofs.YtfegiccjfepnnaaDoor
