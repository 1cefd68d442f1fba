/- The program's reading of a term, on: its kinds. -/
import Derived.Test.YthjmbbpakidkdaaIGet
import Derived.Test.YthjmbbpakidkdaaIPut
namespace Go.Proofs.Ythjmbbpakidkdaa
open Go.RowKit
set_option linter.unusedVariables false

set_option maxHeartbeats 400000 in
theorem termOf_int (n : Int) (w : World) : Calls Try.prog 123 #[.iface 149 (.int .i64 n)] w fun e w' => e = .returned (.agg #[.int .i64 1, .int .i64 n, .string ByteArray.empty, .slice none 0 0]) ∧ Below w.heap.size w w' := by
  have hA : ∀ o, Below w.heap.size w (w.alloc o) := fun o => (Below.refl _ _).alloc (Nat.le_refl _) _
  go_enter Try.func123, Try.ntmps123
  go_wp2_with fail
  refine (kind_intForm _ _).mono ?_
  rintro e w' ⟨rfl, rfl⟩
  go_wp2_with fail
  refine bodyPost_ret (v := .agg #[.int .i64 1, .int .i64 n, .string ByteArray.empty, .slice none 0 0]) (by first | (simp [results, Try.results123, go_sem]; done) | (simp [results, Try.results123, go_sem]; rfl)) rfl ⟨rfl, ?_⟩
  first | exact hA _ | (trace_state; done)

set_option maxHeartbeats 400000 in
theorem termOf_atom (s : ByteArray) (w : World) : Calls Try.prog 123 #[.iface 150 (.string s)] w fun e w' => e = .returned (.agg #[.int .i64 2, .int .i64 0, .string s, .slice none 0 0]) ∧ Below w.heap.size w w' := by
  have hA : ∀ o, Below w.heap.size w (w.alloc o) := fun o => (Below.refl _ _).alloc (Nat.le_refl _) _
  go_enter Try.func123, Try.ntmps123
  go_wp2_with fail
  refine (kind_atomForm _ _).mono ?_
  rintro e w' ⟨rfl, rfl⟩
  go_wp2_with fail
  refine bodyPost_ret (v := .agg #[.int .i64 2, .int .i64 0, .string s, .slice none 0 0]) (by first | (simp [results, Try.results123, go_sem]; done) | (simp [results, Try.results123, go_sem]; rfl)) rfl ⟨rfl, ?_⟩
  first | exact hA _ | (trace_state; done)

set_option maxHeartbeats 400000 in
theorem termOf_pid (n : Int) (w : World) : Calls Try.prog 123 #[.iface 152 (.int .i64 n)] w fun e w' => e = .returned (.agg #[.int .i64 3, .int .i64 n, .string ByteArray.empty, .slice none 0 0]) ∧ Below w.heap.size w w' := by
  have hA : ∀ o, Below w.heap.size w (w.alloc o) := fun o => (Below.refl _ _).alloc (Nat.le_refl _) _
  go_enter Try.func123, Try.ntmps123
  go_wp2_with fail
  refine (kind_pidForm _ _).mono ?_
  rintro e w' ⟨rfl, rfl⟩
  go_wp2_with fail
  refine bodyPost_ret (v := .agg #[.int .i64 3, .int .i64 n, .string ByteArray.empty, .slice none 0 0]) (by first | (simp [results, Try.results123, go_sem]; done) | (simp [results, Try.results123, go_sem]; rfl)) rfl ⟨rfl, ?_⟩
  first | exact hA _ | (trace_state; done)

set_option maxHeartbeats 400000 in
theorem termOf_tuple (a : Option Addr) (l c : Nat) (w : World) : Calls Try.prog 123 #[.iface 153 (.slice a l c)] w fun e w' => e = .returned (.agg #[.int .i64 4, .int .i64 0, .string ByteArray.empty, .slice a l c]) ∧ Below w.heap.size w w' := by
  have hA : ∀ o, Below w.heap.size w (w.alloc o) := fun o => (Below.refl _ _).alloc (Nat.le_refl _) _
  go_enter Try.func123, Try.ntmps123
  go_wp2_with fail
  refine (kind_tupleForm _ _).mono ?_
  rintro e w' ⟨rfl, rfl⟩
  go_wp2_with fail
  refine bodyPost_ret (v := .agg #[.int .i64 4, .int .i64 0, .string ByteArray.empty, .slice a l c]) (by first | (simp [results, Try.results123, go_sem]; done) | (simp [results, Try.results123, go_sem]; rfl)) rfl ⟨rfl, ?_⟩
  first | exact hA _ | (trace_state; done)

set_option maxHeartbeats 400000 in
theorem termOf_list (a : Option Addr) (l c : Nat) (w : World) : Calls Try.prog 123 #[.iface 155 (.slice a l c)] w fun e w' => e = .returned (.agg #[.int .i64 5, .int .i64 0, .string ByteArray.empty, .slice a l c]) ∧ Below w.heap.size w w' := by
  have hA : ∀ o, Below w.heap.size w (w.alloc o) := fun o => (Below.refl _ _).alloc (Nat.le_refl _) _
  go_enter Try.func123, Try.ntmps123
  go_wp2_with fail
  refine (kind_listForm _ _).mono ?_
  rintro e w' ⟨rfl, rfl⟩
  go_wp2_with fail
  refine bodyPost_ret (v := .agg #[.int .i64 5, .int .i64 0, .string ByteArray.empty, .slice a l c]) (by first | (simp [results, Try.results123, go_sem]; done) | (simp [results, Try.results123, go_sem]; rfl)) rfl ⟨rfl, ?_⟩
  first | exact hA _ | (trace_state; done)

set_option maxHeartbeats 400000 in
theorem termOf_nil (w : World) : Calls Try.prog 123 #[.nilIface] w fun e w' => e = .returned (.agg #[.int .i64 0, .int .i64 0, .string ByteArray.empty, .slice none 0 0]) ∧ Below w.heap.size w w' := by
  have hA : ∀ o, Below w.heap.size w (w.alloc o) := fun o => (Below.refl _ _).alloc (Nat.le_refl _) _
  go_enter Try.func123, Try.ntmps123
  go_wp2_with fail
  refine bodyPost_ret (v := .agg #[.int .i64 0, .int .i64 0, .string ByteArray.empty, .slice none 0 0]) (by first | (simp [results, Try.results123, go_sem]; done) | (simp [results, Try.results123, go_sem]; rfl)) rfl ⟨rfl, ?_⟩
  exact hA _

theorem scan_lt (zs : List Int) (a : Nat) : ∀ f k, (scan zs a f k).2.2 = true → (a : Int) < (scan zs a f k).2.1 := by
  intro f
  induction f with
  | zero => intro k h; simp [scan] at h
  | succ f ih =>
    intro k h
    rw [scan] at h ⊢
    split at h
    · rename_i h1
      rw [if_pos h1]
      split at h
      · rename_i h2
        rw [if_pos h2]
        exact ih _ h
      · rename_i h2
        rw [if_neg h2]
        split at h
        · simp at h
        · rename_i h3
          rw [if_neg h3]
          show (a : Int) < ((a + k + 1 : Nat) : Int)
          omega
    · simp at h

theorem getNum_lt (zs : List Int) (p : Int) (h : (getNum zs p).2.2 = true) : p < (getNum zs p).2.1 ∧ (getNum zs p).2.1 ≤ zs.length ∧ -1000000000000 ≤ (getNum zs p).1 ∧ (getNum zs p).1 ≤ 1000000000000 := by
  refine ⟨?_, ((getNum_bd zs p).1 h).2, (getNum_bd zs p).2.1, (getNum_bd zs p).2.2⟩
  unfold getNum at h ⊢
  split at h
  · rename_i h1
    rw [if_pos h1]
    unfold fin at h ⊢
    split at h
    · rename_i h2
      rw [if_pos h2]
      have := scan_lt zs p.toNat 6 0 h2.1
      show p < (scan zs p.toNat 6 0).2.1
      omega
    · simp at h
  · simp at h

theorem getText_lt (zs : List Int) (p : Int) (h : (getText zs p).2.2 = true) : p < (getText zs p).2.1 ∧ (getText zs p).2.1 ≤ zs.length ∧ (getText zs p).1.length ≤ zs.length := by
  unfold getText at h ⊢
  split at h
  · rename_i h1
    rw [if_pos h1]
    have := getNum_lt zs p h1.1
    refine ⟨?_, ?_, ?_⟩
    · show p < (getNum zs p).2.1 + (getNum zs p).1; omega
    · show (getNum zs p).2.1 + (getNum zs p).1 ≤ zs.length; omega
    · show ((zs.drop _).take _).length ≤ _; rw [List.length_take, List.length_drop]; omega
  · simp at h

/-- What a reading of a term hands on. -/
def Post (m : Nat) (w w' : World) (p b off n cap : Nat) (zs : List Int) (at_ : Int) (v : Value) : Prop :=
  ∃ (at' : Int) (bad : Bool), Rdr w' p b off n cap zs at' bad ∧ Turned p w w' ∧ (bad = false → ∃ (t : Tm m) (fp : List Nat), OwnT m w' v t fp ∧ Fresh w.heap.size w' fp ∧ WfT m t ∧ Came zs m at_ t at' ∧ at_ < at' ∧ at' ≤ n) ∧ (bad = true → getT zs m at_ = none)

/-- The contract of the reading of a term. -/
def RTC (m : Nat) : Prop := ∀ (p b off n cap : Nat) (zs : List Int) (at_ : Int) (w : World), Bts n cap zs → Rdr w p b off n cap zs at_ false →
  Calls Try.prog 73 #[.pointer (some ⟨p, 0, none⟩), .int .i64 (9 - m)] w fun e w' => ∃ k x s a l c, e = .returned (.agg #[.int .i64 k, .int .i64 x, .string s, .slice a l c]) ∧ Post m w w' p b off n cap zs at_ (.agg #[.int .i64 k, .int .i64 x, .string s, .slice a l c])

/-- The contract of the reading of what a term is within. -/
def RFC (m : Nat) : Prop := ∀ (p b off n cap : Nat) (zs : List Int) (at_ : Int) (w : World), Bts n cap zs → Rdr w p b off n cap zs at_ false →
  Calls Try.prog 124 #[.pointer (some ⟨p, 0, none⟩), .int .i64 (8 - m)] w fun e w' => ∃ f k x s a l c, e = .returned f ∧ Hid (∀ X, Calls Try.prog 123 #[f] X fun e X' => e = .returned (.agg #[.int .i64 k, .int .i64 x, .string s, .slice a l c]) ∧ Below X.heap.size X X') ∧ Hid (Post (m + 1) w w' p b off n cap zs at_ (.agg #[.int .i64 k, .int .i64 x, .string s, .slice a l c]))

/-- What a reading of parts hands on. -/
def PPost (m : Nat) (w w' : World) (p b off n cap : Nat) (zs : List Int) (at_ : Int) (a : Option Addr) (l c : Nat) : Prop :=
  ∃ (at' : Int) (bad : Bool), Rdr w' p b off n cap zs at' bad ∧ Turned p w w' ∧
    (bad = false → ∃ (x q : Int) (ts : List (Tm m)) (fp : List Nat), getNum zs at_ = (x, q, true) ∧ 0 ≤ x ∧ (ts.length : Int) = x ∧ OwnL m w' (.slice a l c) ts fp ∧ Fresh w.heap.size w' fp ∧ WfL m ts ∧ CameL zs m x.toNat q ts at' ∧ at_ < at' ∧ at' ≤ n) ∧
    (bad = true → (getNum zs at_).2.2 = true → 0 ≤ (getNum zs at_).1 → getL (getT zs m) (getNum zs at_).1.toNat (getNum zs at_).2.1 = none)

/-- The contract of the reading of a term's parts. -/
def RPC (m : Nat) : Prop := ∀ (p b off n cap : Nat) (zs : List Int) (at_ : Int) (w : World), Bts n cap zs → Rdr w p b off n cap zs at_ false →
  Calls Try.prog 174 #[.pointer (some ⟨p, 0, none⟩), .int .i64 (9 - m)] w fun e w' => ∃ a l c, e = .returned (.slice a l c) ∧ Hid (PPost m w w' p b off n cap zs at_ a l c)

end Go.Proofs.Ythjmbbpakidkdaa
