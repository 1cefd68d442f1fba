/- How many and how deep, by the program: what its two functions tell. -/
import Derived.Test.YtjdhkhpdhblhbaaMOf4M
namespace Go.Proofs.Ytjdhkhpdhblhbaa
open Go.RowKit
set_option linter.unusedVariables false

/-- A term out of its fields. -/
def mkT {d : Nat} (k n : Int) (s : ByteArray) (ts : List (Tm d)) : Tm (d + 1) := (k, n, s, ts)

/-- A list of one term that has just been laid. -/
theorem one_rdq {d : Nat} {w : World} {k n : Int} {s : ByteArray} {l : Value} {ts : List (Tm d)} (hr : RdQ d w l ts) : RdQ (d + 1) (w.alloc (.cells #[.int .i64 k, .int .i64 n, .string s, l] 29)) (.slice (some ⟨w.heap.size, 0, none⟩) 1 1) [mkT k n s ts] := by
  have hn := heap_alloc_new w (.cells #[.int .i64 k, .int .i64 n, .string s, l] 29)
  refine ⟨some ⟨w.heap.size, 0, none⟩, 1, rfl, fun i t ht => ?_⟩
  cases i with
  | zero =>
    have e : t = mkT k n s ts := by simpa using ht.symm
    subst e
    have hc := fun j => cell_of_row (w.alloc (.cells #[.int .i64 k, .int .i64 n, .string s, l] 29)) w.heap.size j _ 29 (0, 0) hn
    exact ⟨w.heap.size, 0, l, rfl, ⟨_, _, hn⟩, ⟨by rw [hc]; rfl, by rw [hc]; rfl, by rw [hc]; rfl, by rw [hc]; rfl⟩, hr.later ((Below.refl _ _).alloc (Nat.le_refl _) _)⟩
  | succ i => simp at ht

theorem one_cnt {d : Nat} (k n : Int) (s : ByteArray) (ts : List (Tm d)) : cntL (d + 1) [mkT k n s ts] = 1 + cntL d ts ∧ depL (d + 1) [mkT k n s ts] = 1 + depL d ts := by
  rw [cntL_cons, depL_cons, cntL_nil, depL_nil]
  exact ⟨rfl, by show max (1 + depL d ts) 0 = _; omega⟩

theorem measureOne (d : Nat) (k n : Int) (s : ByteArray) (l : Value) (ts : List (Tm d)) (w : World) (hr : RdQ d w l ts) (hc : cntL d ts ≤ 1099511627770) :
    Calls Try.prog 38 #[.slice (some ⟨w.heap.size, 0, none⟩) 1 1] (w.alloc (.cells #[.int .i64 k, .int .i64 n, .string s, l] 29)) fun e w' => e = .returned (.agg #[.int .i64 (1 + cntL d ts : Nat), .int .i64 (1 + depL d ts : Nat)]) ∧ Below w.heap.size w w' := by
  obtain ⟨h1, h2⟩ := one_cnt k n s ts
  have h := measureOf_any (d + 1) _ _ _ (one_rdq (k := k) (n := n) (s := s) hr) (by rw [h1]; omega)
  rw [h1, h2] at h
  refine h.mono ?_
  rintro e w' ⟨rfl, hB⟩
  exact ⟨rfl, ((Below.refl _ _).alloc (Nat.le_refl _) _).trans (hB.mono (by simp))⟩

theorem fld0 (x y : Int) (W : World) : (Instr.field 56 (.agg #[.int .i64 x, .int .i64 y]) 0).run Try.prog W = .ok (.int .i64 x) W := by
  simp [Instr.field, run_underlying Try.underlying56, part, Try.isAgg3, asAgg, Result.andThen]
theorem fld1 (x y : Int) (W : World) : (Instr.field 56 (.agg #[.int .i64 x, .int .i64 y]) 1).run Try.prog W = .ok (.int .i64 y) W := by
  simp [Instr.field, run_underlying Try.underlying56, part, Try.isAgg3, asAgg, Result.andThen]

set_option maxRecDepth 100000 in
theorem countOf_any (d : Nat) (k n : Int) (s : ByteArray) (l : Value) (ts : List (Tm d)) (w : World) (hr : RdQ d w l ts) (hc : cntL d ts ≤ 1099511627770) :
    Calls Try.prog 15 #[.agg #[.int .i64 k, .int .i64 n, .string s, l]] w fun e w' => e = .returned (.int .i64 (1 + cntL d ts : Nat)) ∧ Below w.heap.size w w' := by
  have hA : Below w.heap.size w (w.alloc (.cells #[.int .i64 k, .int .i64 n, .string s, l] 29)) := (Below.refl _ _).alloc (Nat.le_refl _) _
  have hC := measureOne d k n s l ts (w.alloc (.cells #[.int .i64 k, .int .i64 n, .string s, l] 29)) (hr.later hA) hc
  rw [show (w.alloc (.cells #[.int .i64 k, .int .i64 n, .string s, l] 29)).heap.size = w.heap.size + 1 from by simp] at hC
  obtain ⟨q1, hq1⟩ : ∃ q : Int, ((1 + cntL d ts : Nat) : Int) = q := ⟨_, rfl⟩
  obtain ⟨q2, hq2⟩ : ∃ q : Int, ((1 + depL d ts : Nat) : Int) = q := ⟨_, rfl⟩
  rw [hq1, hq2] at hC
  first | rw [hq1] | rw [hq2]
  clear hq1 hq2 hc hr
  go_enter Try.func15, Try.ntmps15
  go_wp2_with fail
  refine hC.mono ?_
  clear hC
  rintro e w1 ⟨rfl, hB⟩
  have hbf : Below w.heap.size w w1 := hA.trans (hB.mono (by omega))
  clear hB hA
  have hf0 := fld0 q1 q2
  have hf1 := fld1 q1 q2
  go_wp2_with fail
  go_ret
  exact ⟨rfl, hbf⟩

set_option maxRecDepth 100000 in
theorem depthOf_any (d : Nat) (k n : Int) (s : ByteArray) (l : Value) (ts : List (Tm d)) (w : World) (hr : RdQ d w l ts) (hc : cntL d ts ≤ 1099511627770) :
    Calls Try.prog 17 #[.agg #[.int .i64 k, .int .i64 n, .string s, l]] w fun e w' => e = .returned (.int .i64 (1 + depL d ts : Nat)) ∧ Below w.heap.size w w' := by
  have hA : Below w.heap.size w (w.alloc (.cells #[.int .i64 k, .int .i64 n, .string s, l] 29)) := (Below.refl _ _).alloc (Nat.le_refl _) _
  have hC := measureOne d k n s l ts (w.alloc (.cells #[.int .i64 k, .int .i64 n, .string s, l] 29)) (hr.later hA) hc
  rw [show (w.alloc (.cells #[.int .i64 k, .int .i64 n, .string s, l] 29)).heap.size = w.heap.size + 1 from by simp] at hC
  obtain ⟨q1, hq1⟩ : ∃ q : Int, ((1 + cntL d ts : Nat) : Int) = q := ⟨_, rfl⟩
  obtain ⟨q2, hq2⟩ : ∃ q : Int, ((1 + depL d ts : Nat) : Int) = q := ⟨_, rfl⟩
  rw [hq1, hq2] at hC
  first | rw [hq1] | rw [hq2]
  clear hq1 hq2 hc hr
  go_enter Try.func17, Try.ntmps17
  go_wp2_with fail
  refine hC.mono ?_
  clear hC
  rintro e w1 ⟨rfl, hB⟩
  have hbf : Below w.heap.size w w1 := hA.trans (hB.mono (by omega))
  clear hB hA
  have hf0 := fld0 q1 q2
  have hf1 := fld1 q1 q2
  go_wp2_with fail
  go_ret
  exact ⟨rfl, hbf⟩

end Go.Proofs.Ytjdhkhpdhblhbaa
