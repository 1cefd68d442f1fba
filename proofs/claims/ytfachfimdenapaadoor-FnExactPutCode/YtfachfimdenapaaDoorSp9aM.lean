/- Patterns by slots: their shapes, and the model's walk over them. -/
import Derived.Test.YtfachfimdenapaaDoorTmM
import Derived.Test.YtfachfimdenapaaDoorDtPatM
import Derived.Test.YtfachfimdenapaaDoorFxM
import Derived.Test.YtfachfimdenapaaDoorLo0M
import Derived.Test.YtfachfimdenapaaDoorSVarsM
namespace Go.Proofs.YtfachfimdenapaaDoor
open Go.RowKit
set_option linter.unusedVariables false

/-- The shape of a pattern by slots. -/
def ShapeQ (sl k n : Int) (s : ByteArray) (len : Nat) : Prop :=
  (k = 1 ∧ (0 ≤ n ∧ n ≤ 1000000000000) ∧ s.size = 0 ∧ len = 0) ∨ (k = 2 ∧ (AtomP s ∧ ¬ Wrd s) ∧ n = 0 ∧ len = 0) ∨ (k = 3 ∧ s.size = 0 ∧ len = 0 ∧ (-1 ≤ n ∧ n ≤ sl - 1)) ∨ ((k = 4 ∨ k = 5) ∧ s.size = 0 ∧ n = 0 ∧ len ≤ 20) ∨ (k = 6 ∧ s.size = 0 ∧ n = 0 ∧ (2 ≤ (len : Int) ∧ (len : Int) ≤ 6))

theorem shapeQ1 (sl n : Int) (s : ByteArray) (len : Nat) : ShapeQ sl 1 n s len ↔ (0 ≤ n ∧ n ≤ 1000000000000) ∧ s.size = 0 ∧ len = 0 := by simp [ShapeQ]
theorem shapeQ2 (sl n : Int) (s : ByteArray) (len : Nat) : ShapeQ sl 2 n s len ↔ (AtomP s ∧ ¬ Wrd s) ∧ n = 0 ∧ len = 0 := by simp [ShapeQ]
theorem shapeQ3 (sl n : Int) (s : ByteArray) (len : Nat) : ShapeQ sl 3 n s len ↔ s.size = 0 ∧ len = 0 ∧ (-1 ≤ n ∧ n ≤ sl - 1) := by simp [ShapeQ]
theorem shapeQ4 (sl n : Int) (s : ByteArray) (len : Nat) : ShapeQ sl 4 n s len ↔ s.size = 0 ∧ n = 0 ∧ len ≤ 20 := by simp [ShapeQ]
theorem shapeQ5 (sl n : Int) (s : ByteArray) (len : Nat) : ShapeQ sl 5 n s len ↔ s.size = 0 ∧ n = 0 ∧ len ≤ 20 := by simp [ShapeQ]
theorem shapeQ6 (sl n : Int) (s : ByteArray) (len : Nat) : ShapeQ sl 6 n s len ↔ s.size = 0 ∧ n = 0 ∧ (2 ≤ (len : Int) ∧ (len : Int) ≤ 6) := by simp [ShapeQ]

theorem in_call (x lo hi : Int) (w : World) : Calls Tryd.prog 49 #[.int .i64 x, .int .i64 lo, .int .i64 hi] w fun e w' => ∃ b : Bool, e = .returned (.bool b) ∧ (b = true ↔ lo ≤ x ∧ x ≤ hi) ∧ w = w' :=
  (specIn_any x lo hi w).mono fun e w' ⟨h1, h2⟩ => ⟨_, h1, by simp, h2⟩

set_option maxRecDepth 100000 in
set_option maxHeartbeats 4000000 in
theorem l9Shape_any (sl k n : Int) (s : ByteArray) (a : Option Addr) (len c : Nat) (w : World) (hs : s.size ≤ 9223372036854775807) (hlen : len ≤ 9223372036854775807) (hsl : 0 ≤ sl) (hsl2 : sl ≤ 1000000) :
    Calls Tryd.prog 66 #[.agg #[.int .i64 k, .int .i64 n, .string s, .slice a len c], .int .i64 sl] w fun e w' => BRes (ShapeQ sl k n s len) w e w' := by
  have hA : Below w.heap.size w (w.alloc (.cells #[.int .i64 k, .int .i64 n, .string s, .slice a len c] 51)) := (Below.refl _ _).alloc (Nat.le_refl _) _
  by_cases h1 : k = 1
  · subst h1
    rw [shapeQ1]
    obtain ⟨PP, hPP⟩ : ∃ P : Prop, ((0 ≤ n ∧ n ≤ 1000000000000) ∧ s.size = 0 ∧ len = 0) = P := ⟨_, rfl⟩
    have HPP : Hid (((0 ≤ n ∧ n ≤ 1000000000000) ∧ s.size = 0 ∧ len = 0) = PP) := hPP
    rw [hPP]
    clear hPP
    go_enter Tryd.func66, Tryd.ntmps66
    go_wp2_with fail
    refine (in_call n 0 1000000000000 _).mono ?_
    rintro e V0 ⟨b0, rfl, hb0, hw0⟩
    subst hw0
    have HB0 : Hid (b0 = true ↔ 0 ≤ n ∧ n ≤ 1000000000000) := hb0
    clear hb0
    cases b0 with
    | false =>
      have HF : Hid (¬ PP) := by rw [← HPP.out]; exact fun h => by have := HB0.out.2 h.1; simp at this
      go_wp2_with fail
      go_ret
      exact bres_no HF.out hA
    | true =>
      have HP0 : Hid (0 ≤ n ∧ n ≤ 1000000000000) := HB0.out.1 (by simp)
      by_cases hc1 : s.size = 0
      · have HP1 : Hid (s.size = 0) := hc1
        have he : s.toList.isEmpty = true := (empty_iff s).2 hc1
        clear hc1
        by_cases hc2 : len = 0
        · have HP2 : Hid (len = 0) := hc2
          have hl0 : ((len : Int) == 0) = true := by simp [hc2]
          clear hc2
          have HF : Hid PP := by rw [← HPP.out]; exact ⟨(HP0.out), (HP1.out), (HP2.out)⟩
          go_wp2_with fail
          go_ret
          exact bres_yes HF.out hA
        · have HF : Hid (¬ PP) := by rw [← HPP.out]; exact fun h => hc2 h.2.2
          have hl0 : ((len : Int) == 0) = false := by simp [hc2]
          clear hc2
          go_wp2_with fail
          go_ret
          exact bres_no HF.out hA
      · have HF : Hid (¬ PP) := by rw [← HPP.out]; exact fun h => hc1 h.2.1
        have he : s.toList.isEmpty = false := empty_no hc1
        clear hc1
        go_wp2_with fail
        go_ret
        exact bres_no HF.out hA
  by_cases h2 : k = 2
  · subst h2
    rw [shapeQ2]
    go_enter Tryd.func66, Tryd.ntmps66
    go_wp2_with fail
    refine (l4Atom_any s _ hs).mono ?_
    rintro e V ⟨b, rfl, hb, hB⟩
    have HBE : Hid (Below w.heap.size w V) := hA.trans (hB.mono hA.size)
    have hbx : V.heap[w.heap.size]? = some (.cells #[.int .i64 2, .int .i64 n, .string s, .slice a len c] 51 (0, 0)) := (hB.block _ (by simp)).trans (heap_alloc_new w _)
    have d1 : V.cell? ⟨w.heap.size, 1, none⟩ = some (.int .i64 n) := by rw [cell_of_row V _ 1 _ _ _ hbx]; rfl
    have d3 : V.cell? ⟨w.heap.size, 3, none⟩ = some (.slice a len c) := by rw [cell_of_row V _ 3 _ _ _ hbx]; rfl
    clear hB hbx hA
    cases b with
    | false =>
      have HF : Hid (¬ ((AtomP s ∧ ¬ Wrd s) ∧ n = 0 ∧ len = 0)) := fun h => by have := hb.out.2 h.1; cases this
      go_wp2_with fail
      go_ret
      exact bres_no HF.out HBE.out
    | true =>
      by_cases hn : n = 0
      · have hn0 : (n == 0) = true := by simp [hn]
        by_cases hl : len = 0
        · have hl0 : ((len : Int) == 0) = true := by simp [hl]
          have HF : Hid ((AtomP s ∧ ¬ Wrd s) ∧ n = 0 ∧ len = 0) := ⟨hb.out.1 rfl, hn, hl⟩
          clear hn hl hb
          go_wp2_with fail
          go_ret
          exact bres_yes HF.out HBE.out
        · have hl0 : ((len : Int) == 0) = false := by simp [hl]
          have HF : Hid (¬ ((AtomP s ∧ ¬ Wrd s) ∧ n = 0 ∧ len = 0)) := fun h => hl h.2.2
          clear hn hl hb
          go_wp2_with fail
          go_ret
          exact bres_no HF.out HBE.out
      · have hn0 : (n == 0) = false := by simp [hn]
        have HF : Hid (¬ ((AtomP s ∧ ¬ Wrd s) ∧ n = 0 ∧ len = 0)) := fun h => hn h.2.1
        clear hn hb
        go_wp2_with fail
        go_ret
        exact bres_no HF.out HBE.out
  by_cases h3 : k = 3
  · subst h3
    rw [shapeQ3]
    obtain ⟨PP, hPP⟩ : ∃ P : Prop, (s.size = 0 ∧ len = 0 ∧ (-1 ≤ n ∧ n ≤ sl - 1)) = P := ⟨_, rfl⟩
    have HPP : Hid ((s.size = 0 ∧ len = 0 ∧ (-1 ≤ n ∧ n ≤ sl - 1)) = PP) := hPP
    rw [hPP]
    clear hPP
    by_cases hc0 : s.size = 0
    · have HP0 : Hid (s.size = 0) := hc0
      have he : s.toList.isEmpty = true := (empty_iff s).2 hc0
      clear hc0
      by_cases hc1 : len = 0
      · have HP1 : Hid (len = 0) := hc1
        have hl0 : ((len : Int) == 0) = true := by simp [hc1]
        clear hc1
        go_enter Tryd.func66, Tryd.ntmps66
        go_wp2_with fail
        refine (in_call n (-1) (sl - 1) _).mono ?_
        rintro e V2 ⟨b2, rfl, hb2, hw2⟩
        subst hw2
        have HB2 : Hid (b2 = true ↔ -1 ≤ n ∧ n ≤ sl - 1) := hb2
        clear hb2
        cases b2 with
        | false =>
          have HF : Hid (¬ PP) := by rw [← HPP.out]; exact fun h => by have := HB2.out.2 h.2.2; simp at this
          go_wp2_with fail
          go_ret
          exact bres_no HF.out hA
        | true =>
          have HP2 : Hid (-1 ≤ n ∧ n ≤ sl - 1) := HB2.out.1 (by simp)
          have HF : Hid PP := by rw [← HPP.out]; exact ⟨(HP0.out), (HP1.out), (HP2.out)⟩
          go_wp2_with fail
          go_ret
          exact bres_yes HF.out hA
      · have HF : Hid (¬ PP) := by rw [← HPP.out]; exact fun h => hc1 h.2.1
        have hl0 : ((len : Int) == 0) = false := by simp [hc1]
        clear hc1
        go_enter Tryd.func66, Tryd.ntmps66
        go_wp2_with fail
        go_ret
        exact bres_no HF.out hA
    · have HF : Hid (¬ PP) := by rw [← HPP.out]; exact fun h => hc0 h.1
      have he : s.toList.isEmpty = false := empty_no hc0
      clear hc0
      go_enter Tryd.func66, Tryd.ntmps66
      go_wp2_with fail
      go_ret
      exact bres_no HF.out hA
  by_cases h4 : k = 4
  · subst h4
    rw [shapeQ4]
    obtain ⟨PP, hPP⟩ : ∃ P : Prop, (s.size = 0 ∧ n = 0 ∧ len ≤ 20) = P := ⟨_, rfl⟩
    have HPP : Hid ((s.size = 0 ∧ n = 0 ∧ len ≤ 20) = PP) := hPP
    rw [hPP]
    clear hPP
    by_cases hc0 : s.size = 0
    · have HP0 : Hid (s.size = 0) := hc0
      have he : s.toList.isEmpty = true := (empty_iff s).2 hc0
      clear hc0
      by_cases hc1 : n = 0
      · have HP1 : Hid (n = 0) := hc1
        have hn0 : (n == 0) = true := by simp [hc1]
        clear hc1
        by_cases hc2 : len ≤ 20
        · have HP2 : Hid (len ≤ 20) := hc2
          have hl2 : (len : Int) ≤ 20 := by omega
          clear hc2
          have HF : Hid PP := by rw [← HPP.out]; exact ⟨(HP0.out), (HP1.out), (HP2.out)⟩
          go_enter Tryd.func66, Tryd.ntmps66
          go_wp2_with fail
          go_ret
          exact bres_yes HF.out hA
        · have HF : Hid (¬ PP) := by rw [← HPP.out]; exact fun h => hc2 h.2.2
          have hl2 : ¬ (len : Int) ≤ 20 := by omega
          clear hc2
          go_enter Tryd.func66, Tryd.ntmps66
          go_wp2_with fail
          go_ret
          exact bres_no HF.out hA
      · have HF : Hid (¬ PP) := by rw [← HPP.out]; exact fun h => hc1 h.2.1
        have hn0 : (n == 0) = false := by simp [hc1]
        clear hc1
        go_enter Tryd.func66, Tryd.ntmps66
        go_wp2_with fail
        go_ret
        exact bres_no HF.out hA
    · have HF : Hid (¬ PP) := by rw [← HPP.out]; exact fun h => hc0 h.1
      have he : s.toList.isEmpty = false := empty_no hc0
      clear hc0
      go_enter Tryd.func66, Tryd.ntmps66
      go_wp2_with fail
      go_ret
      exact bres_no HF.out hA
  by_cases h5 : k = 5
  · subst h5
    rw [shapeQ5]
    obtain ⟨PP, hPP⟩ : ∃ P : Prop, (s.size = 0 ∧ n = 0 ∧ len ≤ 20) = P := ⟨_, rfl⟩
    have HPP : Hid ((s.size = 0 ∧ n = 0 ∧ len ≤ 20) = PP) := hPP
    rw [hPP]
    clear hPP
    by_cases hc0 : s.size = 0
    · have HP0 : Hid (s.size = 0) := hc0
      have he : s.toList.isEmpty = true := (empty_iff s).2 hc0
      clear hc0
      by_cases hc1 : n = 0
      · have HP1 : Hid (n = 0) := hc1
        have hn0 : (n == 0) = true := by simp [hc1]
        clear hc1
        by_cases hc2 : len ≤ 20
        · have HP2 : Hid (len ≤ 20) := hc2
          have hl2 : (len : Int) ≤ 20 := by omega
          clear hc2
          have HF : Hid PP := by rw [← HPP.out]; exact ⟨(HP0.out), (HP1.out), (HP2.out)⟩
          go_enter Tryd.func66, Tryd.ntmps66
          go_wp2_with fail
          go_ret
          exact bres_yes HF.out hA
        · have HF : Hid (¬ PP) := by rw [← HPP.out]; exact fun h => hc2 h.2.2
          have hl2 : ¬ (len : Int) ≤ 20 := by omega
          clear hc2
          go_enter Tryd.func66, Tryd.ntmps66
          go_wp2_with fail
          go_ret
          exact bres_no HF.out hA
      · have HF : Hid (¬ PP) := by rw [← HPP.out]; exact fun h => hc1 h.2.1
        have hn0 : (n == 0) = false := by simp [hc1]
        clear hc1
        go_enter Tryd.func66, Tryd.ntmps66
        go_wp2_with fail
        go_ret
        exact bres_no HF.out hA
    · have HF : Hid (¬ PP) := by rw [← HPP.out]; exact fun h => hc0 h.1
      have he : s.toList.isEmpty = false := empty_no hc0
      clear hc0
      go_enter Tryd.func66, Tryd.ntmps66
      go_wp2_with fail
      go_ret
      exact bres_no HF.out hA
  by_cases h6 : k = 6
  · subst h6
    rw [shapeQ6]
    obtain ⟨PP, hPP⟩ : ∃ P : Prop, (s.size = 0 ∧ n = 0 ∧ (2 ≤ (len : Int) ∧ (len : Int) ≤ 6)) = P := ⟨_, rfl⟩
    have HPP : Hid ((s.size = 0 ∧ n = 0 ∧ (2 ≤ (len : Int) ∧ (len : Int) ≤ 6)) = PP) := hPP
    rw [hPP]
    clear hPP
    by_cases hc0 : s.size = 0
    · have HP0 : Hid (s.size = 0) := hc0
      have he : s.toList.isEmpty = true := (empty_iff s).2 hc0
      clear hc0
      by_cases hc1 : n = 0
      · have HP1 : Hid (n = 0) := hc1
        have hn0 : (n == 0) = true := by simp [hc1]
        clear hc1
        go_enter Tryd.func66, Tryd.ntmps66
        go_wp2_with fail
        refine (in_call (len : Int) 2 6 _).mono ?_
        rintro e V2 ⟨b2, rfl, hb2, hw2⟩
        subst hw2
        have HB2 : Hid (b2 = true ↔ 2 ≤ (len : Int) ∧ (len : Int) ≤ 6) := hb2
        clear hb2
        cases b2 with
        | false =>
          have HF : Hid (¬ PP) := by rw [← HPP.out]; exact fun h => by have := HB2.out.2 h.2.2; simp at this
          go_wp2_with fail
          go_ret
          exact bres_no HF.out hA
        | true =>
          have HP2 : Hid (2 ≤ (len : Int) ∧ (len : Int) ≤ 6) := HB2.out.1 (by simp)
          have HF : Hid PP := by rw [← HPP.out]; exact ⟨(HP0.out), (HP1.out), (HP2.out)⟩
          go_wp2_with fail
          go_ret
          exact bres_yes HF.out hA
      · have HF : Hid (¬ PP) := by rw [← HPP.out]; exact fun h => hc1 h.2.1
        have hn0 : (n == 0) = false := by simp [hc1]
        clear hc1
        go_enter Tryd.func66, Tryd.ntmps66
        go_wp2_with fail
        go_ret
        exact bres_no HF.out hA
    · have HF : Hid (¬ PP) := by rw [← HPP.out]; exact fun h => hc0 h.1
      have he : s.toList.isEmpty = false := empty_no hc0
      clear hc0
      go_enter Tryd.func66, Tryd.ntmps66
      go_wp2_with fail
      go_ret
      exact bres_no HF.out hA
  · have HF : Hid (¬ ShapeQ sl k n s len) := fun h => by rcases h with h | h | h | ⟨h | h, _⟩ | h <;> first | exact h1 h.1 | exact h2 h.1 | exact h3 h.1 | exact h4 h | exact h5 h | exact h6 h.1
    have q1 : (k == 1) = false := by simp [h1]
    have q2 : (k == 2) = false := by simp [h2]
    have q3 : (k == 3) = false := by simp [h3]
    have q4 : (k == 4) = false := by simp [h4]
    have q5 : (k == 5) = false := by simp [h5]
    have q6 : (k == 6) = false := by simp [h6]
    go_enter Tryd.func66, Tryd.ntmps66
    go_wp2_with fail
    go_ret
    exact bres_no HF.out hA

end Go.Proofs.YtfachfimdenapaaDoor

/- The model's walk over a pattern by slots. -/
namespace Go.Proofs.YtfachfimdenapaaDoor
open Go.RowKit
set_option linter.unusedVariables false

/-- A list of patterns is read as one of terms is. -/
theorem pat_rd : ∀ (d : Nat) (w : World) (v : Value) (ts : List (Tm d)), RowOf 4 (PatR d) w v ts → RdL d w v ts := by
  intro d
  induction d with
  | zero =>
    rintro w v ts ⟨a, c, rfl, _⟩
    cases ts with
    | nil => exact ⟨a, c, rfl⟩
    | cons t _ => exact Empty.elim t
  | succ d ih =>
    rintro w v ts ⟨a, c, rfl, h⟩
    refine ⟨a, c, rfl, fun i t ht => ?_⟩
    obtain ⟨b, o, vs, h1, h2, h3, v3, rfl, h4⟩ := h i t ht
    exact ⟨b, o, v3, h1, ⟨h3 0 _ rfl, h3 1 _ rfl, h3 2 _ rfl, h3 3 _ rfl⟩, ih _ _ _ h4⟩
theorem pat_wf : ∀ (d : Nat) (ts : List (Tm d)), WfRow (WfPat d) ts → WfL d ts := by
  intro d
  induction d with
  | zero => intro ts _; trivial
  | succ d ih =>
    rintro ts ⟨h1, h2⟩
    exact ⟨h1, fun t ht => ⟨(h2 t ht).1, (h2 t ht).2.1, (h2 t ht).2.2.1, ih _ (h2 t ht).2.2.2⟩⟩

/-- All terms of a list have their shapes, all storeys. -/
def OkQ (sl : Int) : (d : Nat) → List (Tm d) → Prop
  | 0, _ => True
  | d + 1, ts => ∀ t ∈ ts, ShapeQ sl t.K t.N t.S t.L.length ∧ OkQ sl d t.L

/-- A term that is right, no deeper than told, of no more than are left. -/
def RightQ (sl : Int) (d : Nat) (k n : Int) (s : ByteArray) (ts : List (Tm d)) (deep left : Int) : Prop :=
  ShapeQ sl k n s ts.length ∧ OkQ sl d ts ∧ ((1 + depL d ts : Nat) : Int) ≤ deep ∧ ((1 + cntL d ts : Nat) : Int) ≤ left

/-- The contract of a walk that tells how many may be left. -/
def LookQ (sl : Int) (f d : Nat) : Prop := ∀ (k n : Int) (s : ByteArray) (l : Value) (ts : List (Tm d)) (deep left : Int) (w : World), RdL d w l ts → WfL d ts → s.size ≤ 9223372036854775807 → -1000 ≤ deep → deep ≤ 1000 → -1000 ≤ left → left ≤ 1000000 →
  Calls Tryd.prog f #[.agg #[.int .i64 k, .int .i64 n, .string s, l], .int .i64 sl, .int .i64 deep, .int .i64 left] w fun e w' => ∃ r : Int, e = .returned (.int .i64 r) ∧ ((RightQ sl d k n s ts deep left ∧ r = left - (1 + cntL d ts : Nat)) ∨ (¬ RightQ sl d k n s ts deep left ∧ r = -1)) ∧ Below w.heap.size w w'

set_option maxHeartbeats 1000000 in
/-- What is refused at once. -/
theorem lookQ_no {sl : Int} (hsl : 0 ≤ sl) (hsl2 : sl ≤ 1000000) (k n : Int) (s : ByteArray) (a : Option Addr) (len c : Nat) (deep left : Int) (w : World) (hs : s.size ≤ 9223372036854775807) (hl : len ≤ 9223372036854775807)
    (h : deep < 1 ∨ left < 1 ∨ ¬ ShapeQ sl k n s len) :
    Calls Tryd.prog 52 #[.agg #[.int .i64 k, .int .i64 n, .string s, .slice a len c], .int .i64 sl, .int .i64 deep, .int .i64 left] w fun e w' => e = .returned (.int .i64 (-1)) ∧ Below w.heap.size w w' := by
  obtain ⟨W, hW⟩ : ∃ W, W = w.alloc (.cells #[.int .i64 k, .int .i64 n, .string s, .slice a len c] 51) := ⟨_, rfl⟩
  have hA : Below w.heap.size w W := by rw [hW]; exact (Below.refl _ _).alloc (Nat.le_refl _) _
  by_cases h1 : deep < 1
  · rw [hW] at hA
    clear hW
    go_enter Tryd.func52, Tryd.ntmps52
    go_wp2_with fail
    go_ret
    exact ⟨rfl, hA⟩
  · by_cases h2 : left < 1
    · rw [hW] at hA
      clear hW
      go_enter Tryd.func52, Tryd.ntmps52
      go_wp2_with fail
      go_ret
      exact ⟨rfl, hA⟩
    · have h3 : Hid (¬ ShapeQ sl k n s len) := by rcases h with h | h | h; exact absurd h h1; exact absurd h h2; exact h
      have hC := l9Shape_any sl k n s a len c W hs hl hsl hsl2
      rw [hW] at hC
      have HW : Hid (W = _) := hW
      clear h hW
      go_enter Tryd.func52, Tryd.ntmps52
      go_wp2_with fail
      refine hC.mono ?_
      clear hC
      rintro e w1 ⟨b, rfl, hb, hB⟩
      rw [← HW.out] at hB
      have hb2 : Below w.heap.size w w1 := hA.trans (hB.mono hA.size)
      have : b = false := by cases b; rfl; exact absurd (hb.1 rfl) h3.out
      subst this
      clear hb hB hA HW h3
      go_wp2_with fail
      go_ret
      exact ⟨rfl, hb2⟩

theorem right_zeroQ {sl : Int} {k n : Int} {s : ByteArray} {ts : List (Tm 0)} {deep left : Int} (h1 : ¬ deep < 1) (h2 : ¬ left < 1) (h3 : ShapeQ sl k n s ts.length) : RightQ sl 0 k n s ts deep left :=
  ⟨h3, trivial, by show ((1 + 0 : Nat) : Int) ≤ deep; omega, by show ((1 + 0 : Nat) : Int) ≤ left; omega⟩

/-- The first j terms of a list are right. -/
def RightPQ (sl : Int) (d : Nat) (ts : List (Tm (d + 1))) (deep left : Int) (j : Nat) : Prop :=
  (∀ i t, i < j → ts[i]? = some t → ShapeQ sl t.K t.N t.S t.L.length ∧ OkQ sl d t.L ∧ ((1 + depL d t.L : Nat) : Int) ≤ deep - 1) ∧ ((1 + cntP d ts j : Nat) : Int) ≤ left

theorem rightP_allQ {sl : Int} {d : Nat} {k n : Int} {s : ByteArray} {ts : List (Tm (d + 1))} {deep left : Int} {j : Nat} (hd : ¬ deep < 1) (h3 : ShapeQ sl k n s ts.length) (hj : ts.length ≤ j) (h : RightPQ sl d ts deep left j) : RightQ sl (d + 1) k n s ts deep left := by
  refine ⟨h3, fun t ht => ?_, ?_, by have := h.2; rw [cntP_all d ts j hj] at this; exact this⟩
  · obtain ⟨i, hi, e⟩ := List.getElem_of_mem ht
    have := h.1 i t (by omega) (by rw [List.getElem?_eq_getElem hi, e])
    exact ⟨this.1, this.2.1⟩
  · have : depL (d + 1) ts ≤ (deep - 1).toNat := depL_le.2 fun t ht => by
      obtain ⟨i, hi, e⟩ := List.getElem_of_mem ht
      have := (h.1 i t (by omega) (by rw [List.getElem?_eq_getElem hi, e])).2.2
      omega
    omega

theorem right_elemQ {sl : Int} {d : Nat} {k n : Int} {s : ByteArray} {ts : List (Tm (d + 1))} {deep left : Int} {j : Nat} {t : Tm (d + 1)} (ht : ts[j]? = some t) (h : RightQ sl (d + 1) k n s ts deep left) : RightQ sl d t.K t.N t.S t.L (deep - 1) (left - 1 - cntP d ts j) := by
  have hm := List.mem_of_getElem? ht
  obtain ⟨_, h2, h3, h4⟩ := h
  have h5 := h2 t hm
  have h6 : 1 + depL d t.L ≤ depL (d + 1) ts := (depL_le (m := depL (d + 1) ts)).1 (Nat.le_refl _) t hm
  have h7 := cntP_succ d ts j t ht
  have h8 := cntP_le d ts (j + 1)
  exact ⟨h5.1, h5.2, by omega, by omega⟩

theorem rightP_stepQ {sl : Int} {d : Nat} {ts : List (Tm (d + 1))} {deep left : Int} {j : Nat} {t : Tm (d + 1)} (ht : ts[j]? = some t) (h : RightPQ sl d ts deep left j) (hr : RightQ sl d t.K t.N t.S t.L (deep - 1) (left - 1 - cntP d ts j)) : RightPQ sl d ts deep left (j + 1) := by
  have h7 := cntP_succ d ts j t ht
  obtain ⟨r1, r2, r3, r4⟩ := hr
  refine ⟨fun i u hi hu => ?_, by omega⟩
  by_cases hij : i < j
  · exact h.1 i u hij hu
  · obtain rfl : i = j := by omega
    rw [ht] at hu
    obtain rfl := Option.some.inj hu
    exact ⟨r1, r2, r3⟩

set_option maxHeartbeats 2000000 in
theorem lookQ_any (sl : Int) (hsl : 0 ≤ sl) (hsl2 : sl ≤ 1000000) : ∀ d, LookQ sl 52 d := by
  intro d
  induction d with
  | zero =>
    intro k n s l ts deep left w hr hw hs hd0 hd1 hl0 hl1
    obtain ⟨a, c, rfl⟩ := hr.len
    have hln := hw.len
    by_cases h : deep < 1 ∨ left < 1 ∨ ¬ ShapeQ sl k n s ts.length
    · refine (lookQ_no hsl hsl2 k n s a _ c deep left w hs hln h).mono ?_
      rintro e w' ⟨rfl, hb⟩
      refine ⟨-1, rfl, .inr ⟨fun hR => ?_, rfl⟩, hb⟩
      obtain ⟨r1, _, r3, r4⟩ := hR
      rcases h with h | h | h
      · omega
      · omega
      · exact h r1
    · have h1 : ¬ deep < 1 := fun e => h (.inl e)
      have h2 : ¬ left < 1 := fun e => h (.inr (.inl e))
      have h3 : ShapeQ sl k n s ts.length := Classical.byContradiction fun e => h (.inr (.inr e))
      have HR : Hid (RightQ sl 0 k n s ts deep left) := right_zeroQ h1 h2 h3
      have hz : ts.length = 0 := by
        cases ts with
        | nil => rfl
        | cons t _ => exact Empty.elim t
      have H3 : Hid (ShapeQ sl k n s 0) := by rw [← hz]; exact h3
      rw [hz]
      obtain ⟨W, hW⟩ : ∃ W, W = w.alloc (.cells #[.int .i64 k, .int .i64 n, .string s, .slice a 0 c] 51) := ⟨_, rfl⟩
      have hA : Below w.heap.size w W := by rw [hW]; exact (Below.refl _ _).alloc (Nat.le_refl _) _
      have hWz : W.heap.size = w.heap.size + 1 := by rw [hW]; simp
      have hB1 : W.heap[w.heap.size]? = some (.cells #[.int .i64 k, .int .i64 n, .string s, .slice a 0 c] 51 (0, 0)) := by rw [hW]; exact heap_alloc_new w _
      have hC := l9Shape_any sl k n s a 0 c W hs (by omega) hsl hsl2
      rw [hW] at hC
      have HW : Hid (W = _) := hW
      clear h hW h3
      go_enter Tryd.func52, Tryd.ntmps52
      go_wp2_with fail
      refine hC.mono ?_
      clear hC
      rintro e w1 ⟨b, rfl, hb, hB⟩
      rw [← HW.out] at hB
      have hb2 : Below w.heap.size w w1 := hA.trans (hB.mono hA.size)
      have : b = true := hb.2 H3.out
      subst this
      have c1 : w1.cell? ⟨w.heap.size, 3, none⟩ = some (.slice a 0 c) := by rw [cell_of_row w1 _ 3 _ _ _ ((hB.block _ (by omega)).trans hB1)]; rfl
      clear hb hB hA HW hB1
      go_wp2_with fail
      refine wp_loop_rounds 1 ?_
      rw [rounds_succ]
      go_wp2
      go_ret
      exact ⟨_, rfl, .inl ⟨HR.out, rfl⟩, hb2⟩
  | succ d ih =>
    intro k n s l ts deep left w hr hw hs hd0 hd1 hl0 hl1
    obtain ⟨a, c, rfl, hel⟩ := hr
    have hln := hw.len
    by_cases h : deep < 1 ∨ left < 1 ∨ ¬ ShapeQ sl k n s ts.length
    · refine (lookQ_no hsl hsl2 k n s a _ c deep left w hs hln h).mono ?_
      rintro e w' ⟨rfl, hb⟩
      refine ⟨-1, rfl, .inr ⟨fun hR => ?_, rfl⟩, hb⟩
      obtain ⟨r1, _, r3, r4⟩ := hR
      rcases h with h | h | h
      · omega
      · omega
      · exact h r1
    · have h1 : ¬ deep < 1 := fun e => h (.inl e)
      have h2 : ¬ left < 1 := fun e => h (.inr (.inl e))
      have H3 : Hid (ShapeQ sl k n s ts.length) := Classical.byContradiction fun e => h (.inr (.inr e))
      have HE : Hid (∀ (i : Nat) (t : Tm (d + 1)), ts[i]? = some t → ∃ b o lv, a = some ⟨b, o, none⟩ ∧ Four w b (o + i * 4) t.K t.N t.S lv ∧ RdL d w lv t.L) := hel
      have HWF : Hid (WfL (d + 1) ts) := hw
      obtain ⟨len, hl⟩ : ∃ len, ts.length = len := ⟨_, rfl⟩
      have HL : Hid (ts.length = len) := hl
      rw [hl] at hln ⊢
      obtain ⟨W, hW⟩ : ∃ W, W = w.alloc (.cells #[.int .i64 k, .int .i64 n, .string s, .slice a len c] 51) := ⟨_, rfl⟩
      have hA : Below w.heap.size w W := by rw [hW]; exact (Below.refl _ _).alloc (Nat.le_refl _) _
      have hWz : W.heap.size = w.heap.size + 1 := by rw [hW]; simp
      have hB1 : W.heap[w.heap.size]? = some (.cells #[.int .i64 k, .int .i64 n, .string s, .slice a len c] 51 (0, 0)) := by rw [hW]; exact heap_alloc_new w _
      have hC := l9Shape_any sl k n s a len c W hs hln hsl hsl2
      rw [hW] at hC
      have HW : Hid (W = _) := hW
      have HI : Hid (LookQ sl 52 d) := ih
      clear h hW ih hel hw hl
      go_enter Tryd.func52, Tryd.ntmps52
      go_wp2_with fail
      refine hC.mono ?_
      clear hC
      rintro e w1 ⟨b, rfl, hb, hB⟩
      rw [← HW.out] at hB
      have : b = true := hb.2 (by rw [← HL.out]; exact H3.out)
      subst this
      have HB1 : Hid (w1.heap[w.heap.size]? = _) := (hB.block _ (by omega)).trans hB1
      have hbw1 : Below w.heap.size w w1 := hA.trans (hB.mono hA.size)
      have hwz : w.heap.size < w1.heap.size := by have := hB.size; omega
      clear hb hB hA HW hB1 hWz
      go_wp2_with fail
      go_loopw [3, 9] (fun x i wr => ∃ (j : Nat) (y : Int), j ≤ len ∧ i = .int .i64 j ∧ x = .int .i64 y ∧ Below w1.heap.size w1 wr ∧ Hid ((RightPQ sl d ts deep left j ∧ y = left - 1 - cntP d ts j) ∨ (¬ RightQ sl (d + 1) k n s ts deep left ∧ y = -1))) (fun _ i _ => len - (intOf i).toNat)
      case atStart => exact ⟨0, _, Nat.zero_le _, rfl, rfl, Below.refl _ _, .inl ⟨⟨fun i t hi => by omega, by show ((1 + 0 : Nat) : Int) ≤ left; omega⟩, by show left - 1 = left - 1 - ((0 : Nat) : Int); omega⟩⟩
      case round =>
        obtain ⟨j, y, hj, rfl, rfl, hb, HS⟩ := hrel
        have c1 : wr.cell? ⟨w.heap.size, 3, none⟩ = some (.slice a len c) := by rw [cell_of_row wr _ 3 _ _ _ ((hb.block _ hwz).trans HB1.out)]; rfl
        have hbw : Below w.heap.size w wr := hbw1.trans (hb.mono hbw1.size)
        rcases HS.out with ⟨hP, hy⟩ | ⟨hN, hy⟩
        · have hy0 : 0 ≤ y := by have := hP.2; omega
          have hy1 : y ≤ 1000000 := by omega
          by_cases hjl : j < len
          · obtain ⟨t, ht⟩ : ∃ t, ts[j]? = some t := ⟨_, List.getElem?_eq_getElem (by rw [HL.out]; exact hjl)⟩
            obtain ⟨b1, o1, lv1, rfl, F1, L1⟩ := HE.out j t ht
            obtain ⟨_, _, hst, hwt⟩ := HWF.out.2 t (List.mem_of_getElem? ht)
            obtain ⟨f0, f1, f2, f3⟩ := F1.later hbw
            have hC := HI.out t.K t.N t.S lv1 t.L (deep - 1) y wr (L1.later hbw) hwt hst (by omega) (by omega) (by omega) (by omega)
            have HNX : Hid (∀ r : Int, ((RightQ sl d t.K t.N t.S t.L (deep - 1) y ∧ r = y - (1 + cntL d t.L : Nat)) ∨ (¬ RightQ sl d t.K t.N t.S t.L (deep - 1) y ∧ r = -1)) → (RightPQ sl d ts deep left (j + 1) ∧ r = left - 1 - cntP d ts (j + 1)) ∨ (¬ RightQ sl (d + 1) k n s ts deep left ∧ r = -1)) := fun r hr => by
              have hstep := cntP_succ d ts j t ht
              rcases hr with ⟨r1, r2⟩ | ⟨r1, r2⟩
              · rw [hy] at r1
                exact .inl ⟨rightP_stepQ ht hP r1, by omega⟩
              · exact .inr ⟨fun hR => r1 (by rw [hy]; exact right_elemQ ht hR), r2⟩
            have hjl' : (j : Int) < (len : Int) := by omega
            clear F1 L1 hwt hst ht hP hy HS
            go_wp2_with fail
            refine hC.mono ?_
            clear hC
            rintro e V ⟨r, rfl, hr, hB⟩
            have HR2 : Hid _ := HNX.out r hr
            have hb2 : Below w1.heap.size w1 V := hb.trans (hB.mono hb.size)
            clear hb hB f0 f1 f2 f3 c1 hr HNX
            go_wp2
            go_roundw
            case rel => exact ⟨j + 1, r, by omega, by go_num, rfl, hb2, HR2⟩
            case measure => simp [intOf]; omega
          · have HR : Hid (RightQ sl (d + 1) k n s ts deep left) := rightP_allQ (by omega) H3.out (by have := HL.out; omega) hP
            have HY : Hid (y = left - (1 + cntL (d + 1) ts : Nat)) := by have := cntP_all d ts j (by have := HL.out; omega); show _ = _; omega
            clear hb hP hy HS
            go_wp2
            go_ret
            exact ⟨y, rfl, .inl ⟨HR.out, HY.out⟩, hbw⟩
        · have HR : Hid (¬ RightQ sl (d + 1) k n s ts deep left) := hN
          subst hy
          clear hb hN HS
          by_cases hjl : j < len
          · have hjl' : (j : Int) < (len : Int) := by omega
            go_wp2
            go_ret
            exact ⟨-1, rfl, .inr ⟨HR.out, rfl⟩, hbw⟩
          · go_wp2
            go_ret
            exact ⟨-1, rfl, .inr ⟨HR.out, rfl⟩, hbw⟩


end Go.Proofs.YtfachfimdenapaaDoor

/- The slots of a pattern: the model's. -/
namespace Go.Proofs.YtfachfimdenapaaDoor
open Go.RowKit
set_option linter.unusedVariables false

def ownSlot (k n : Int) : List Int := if k = 3 ∧ n ≠ -1 then [n] else []
/-- The slots of a pattern, from the left. -/
def slotsP : (d : Nat) → Tm d → List Int
  | 0, _ => []
  | d + 1, e => ownSlot e.K e.N ++ e.L.flatMap (slotsP d)

theorem ownSlot_len (k n : Int) : (ownSlot k n).length ≤ 1 := by unfold ownSlot; split <;> simp

theorem slotsP_len : ∀ (d : Nat) (e : Tm d), (slotsP d e).length ≤ 1 + szPatD d e := by
  intro d
  induction d with
  | zero => intro e; exact Nat.zero_le _
  | succ d ih =>
    intro e
    have h1 := ownSlot_len e.K e.N
    have h2 : (e.L.flatMap (slotsP d)).length ≤ szRow (szPatD d) e.L := by
      unfold szRow
      generalize e.L = l
      induction l with
      | nil => exact Nat.zero_le _
      | cons x l ihl => simp only [List.flatMap_cons, List.length_append, List.map_cons, List.sum_cons, List.length_cons]; have := ih x; omega
    show (ownSlot e.K e.N ++ e.L.flatMap (slotsP d)).length ≤ 1 + (e.S.size + szRow (szPatD d) e.L)
    rw [List.length_append]
    omega

/-- A row of texts in memory of one's own. -/
def IntRow (w : World) (B : Nat) (v : Value) (l : List Int) : Prop := w.ownsRow B 3 1 v l.length (l.map (Value.int .i64))


theorem IntRow.cells {w : World} {B g n c : Nat} {l : List Int} (h : IntRow w B (.slice (some ⟨g, 0, none⟩) n c) l) : n = l.length ∧ ∀ (j : Nat) (u : Value), (l.map (Value.int .i64))[j]? = some u → w.cell? ((⟨g, 0, none⟩ : Addr).add j) = some u := by
  rcases h.2 with ⟨e, _⟩ | ⟨g', cap, cur, e, _, hg, _, _, hs, ht⟩
  · cases e
  · simp only [Value.slice.injEq, Option.some.injEq, Addr.mk.injEq, and_true] at e
    obtain ⟨rfl, rfl, rfl⟩ := e
    refine ⟨rfl, fun j u hu => ?_⟩
    have hj : j < l.length := by have := (List.getElem?_eq_some_iff.1 hu).1; simpa using this
    rw [Addr.add_lit, Nat.zero_add, cell_of_row w _ _ _ _ _ hg]
    rw [Nat.mul_one] at ht
    rw [← ht, List.getElem?_take, if_pos hj] at hu
    simpa using hu

theorem IntRow.kept {w w' : World} {B : Nat} {v : Value} {l : List Int} (h : IntRow w B v l) (hk : ∀ g, v.ownBlock = some g → w'.heap[g]? = w.heap[g]?) : IntRow w' B v l := rowKept h hk
theorem IntRow.blk {w : World} {B : Nat} {v : Value} {l : List Int} (h : IntRow w B v l) : ∀ g, v.ownBlock = some g → B ≤ g ∧ g < w.heap.size := fun g hg => by
  rcases h.2 with ⟨e, _⟩ | ⟨g', c', cur, e1, e2, e3, _⟩
  · rw [e] at hg; cases hg
  · rw [e1] at hg
    obtain rfl : g' = g := by simpa [Value.ownBlock] using hg
    exact ⟨e2, lt_row e3⟩
theorem IntRow.empty {w : World} {g B : Nat} (h : w.heap[g]? = some (.cells #[] 3 (0, 0))) (hB : B ≤ g) : IntRow w B (.slice (some ⟨g, 0, none⟩) 0 0) [] :=
  ⟨rfl, .inr ⟨g, 0, #[], rfl, hB, h, Nat.le_refl _, Nat.zero_le _, rfl, rfl⟩⟩
theorem IntRow.ptr {w w' : World} {B : Nat} {v v' : Value} {l : List Int} (h : IntRow w B v' l) (hv : v' = .slice none 0 0 ↔ v = .slice none 0 0 ∧ False) : ∃ g n c, v' = .slice (some ⟨g, 0, none⟩) n c := by
  rcases h.2 with ⟨e, _⟩ | ⟨g', c', cur, e1, _⟩
  · exact absurd (hv.1 e).2 id
  · exact ⟨_, _, _, e1⟩

/-- How the names are gathered. -/
def SMid (w wr : World) (ob : Array Value) (l : List Int) (v : Value) : Prop :=
  wr.heap[w.heap.size]? = some (.cells ob 51 (0, 0)) ∧ IntRow wr (w.heap.size + 1) v l ∧ Below w.heap.size w wr ∧ ∃ g n c, v = .slice (some ⟨g, 0, none⟩) n c

theorem SMid.later {w wr w' : World} {ob : Array Value} {l : List Int} {v : Value} (h : SMid w wr ob l v) (hb : Below wr.heap.size wr w') : SMid w w' ob l v := by
  obtain ⟨h1, h2, h3, h4⟩ := h
  exact ⟨(hb.block _ (lt_row h1)).trans h1, h2.kept fun g hg => hb.block g (h2.blk g hg).2, h3.trans (hb.mono h3.size), h4⟩

theorem SMid.app {w wr w2 : World} {ob : Array Value} {l m : List Int} {v v' : Value} (h : SMid w wr ob l v) (hown : w2.ownsRow (w.heap.size + 1) 3 1 v' (l.length + m.length) (l.map (Value.int .i64) ++ m.map (Value.int .i64))) (hg : wr.grownBy w2 v.ownBlock) (hn : v' = .slice none 0 0 ↔ v = .slice none 0 0 ∧ m.length = 0) : SMid w w2 ob (l ++ m) v' := by
  obtain ⟨h1, h2, h3, g, n, c, rfl⟩ := h
  have hr : IntRow w2 (w.heap.size + 1) v' (l ++ m) := by
    unfold IntRow
    rw [List.length_append, List.map_append]
    exact hown
  have hz := hg.size
  have hgb := (h2.blk g rfl).1
  refine ⟨(hg.block _ (lt_row h1) (by simp [Value.ownBlock]; omega)).trans h1, hr, ?_, ?_⟩
  · refine h3.trans ⟨hg.os, hg.tape, hg.output, hg.size, fun x hx => hg.block x (Nat.lt_of_lt_of_le hx h3.size) (by simp [Value.ownBlock]; omega)⟩
  · rcases hr.2 with ⟨e, _⟩ | ⟨g', c', cur, e1, _⟩
    · have := (hn.1 e).1; cases this
    · exact ⟨_, _, _, e1⟩

theorem SMid.row {w wr : World} {ob : Array Value} {l : List Int} {v : Value} (h : SMid w wr ob l v) : wr.ownsRow (w.heap.size + 1) 3 1 v l.length (l.map (Value.int .i64)) := h.2.1

def SlC (d : Nat) : Prop := ∀ (vs : List Value) (e : Tm d) (w : World), PatR d w vs e → szPatD d e ≤ 1048576 →
  Calls Tryd.prog 53 #[.agg vs.toArray] w fun r w' => ∃ g n c, r = .returned (.slice (some ⟨g, 0, none⟩) n c) ∧ Hid (IntRow w' w.heap.size (.slice (some ⟨g, 0, none⟩) n c) (slotsP d e)) ∧ Below w.heap.size w w'

set_option maxRecDepth 100000 in
set_option maxHeartbeats 2000000 in
theorem l9Slots_of (d : Nat) (H : SlC d) : SlC (d + 1) := by
  obtain ⟨i0, hi, hi0, hi1, hi2⟩ := info_parts Tryd.infoInt
  rintro vs x w ⟨ve, rfl, h1⟩ hz
  have hz' : x.S.size + szRow (szPatD d) x.L ≤ 1048576 := hz
  obtain ⟨a3, c3, rfl, hel⟩ := h1
  have HE : Hid (∀ (i : Nat) (e : Tm d), x.L[i]? = some e → ∃ b o vs, a3 = some ⟨b, o, none⟩ ∧ vs.length = 4 ∧ (∀ (j : Nat) (u : Value), vs[j]? = some u → w.cell? ⟨b, o + i * 4 + j, none⟩ = some u) ∧ PatR d w vs e) := hel
  obtain ⟨len, e3⟩ : ∃ l, x.L.length = l := ⟨_, rfl⟩
  have HLN : Hid (x.L.length = len) := e3
  have hlm : len ≤ 1048576 := by have := sumP_all (szPatD d) x.L; omega
  have HZ : Hid (szRow (szPatD d) x.L ≤ 1048576) := by show _ ≤ _; omega
  have HB : Hid (∀ j, (ownSlot x.K x.N ++ (x.L.take j).flatMap (slotsP d)).length ≤ 1048577) := fun j => by
    have h5 := ownSlot_len x.K x.N
    have h6 : ((x.L.take j).flatMap (slotsP d)).length ≤ szRow (szPatD d) x.L := by
      have : ((x.L.take j).flatMap (slotsP d)).length ≤ (x.L.flatMap (slotsP d)).length := by
        conv => rhs; rw [← List.take_append_drop j x.L, List.flatMap_append, List.length_append]
        omega
      refine Nat.le_trans this ?_
      unfold szRow
      generalize x.L = l
      induction l with
      | nil => exact Nat.zero_le _
      | cons y l ihl => simp only [List.flatMap_cons, List.length_append, List.map_cons, List.sum_cons, List.length_cons]; have := slotsP_len d y; omega
    rw [List.length_append]
    omega
  rw [e3]
  obtain ⟨K, hK⟩ : ∃ K, x.K = K := ⟨_, rfl⟩
  obtain ⟨N, hN⟩ : ∃ N, x.N = N := ⟨_, rfl⟩
  obtain ⟨S, hS⟩ : ∃ S, x.S = S := ⟨_, rfl⟩
  have HV : Hid (slotsP (d + 1) x = ownSlot K N ++ x.L.flatMap (slotsP d)) := by show _ = _; rw [← hK, ← hN]; rfl
  rw [hK, hN] at HB
  rw [hK, hN, hS]
  obtain ⟨W, hW⟩ : ∃ W, W = (w.alloc (Obj.cells #[.int .i64 K, .int .i64 N, .string S, .slice a3 len c3] 51)).alloc (.cells #[] 3) := ⟨_, rfl⟩
  have hWb : Below w.heap.size w W := by rw [hW]; exact ((Below.refl _ _).alloc (Nat.le_refl _) _).alloc (by simp) _
  have n1 : W.heap[w.heap.size]? = some (Obj.cells #[.int .i64 K, .int .i64 N, .string S, .slice a3 len c3] 51 (0, 0)) := by rw [hW, Below.heap_alloc _ _ _ (by simp)]; exact heap_alloc_new w _
  have n2 : W.heap[w.heap.size + 1]? = some (.cells #[] 3 (0, 0)) := by rw [hW]; have := heap_alloc_new (w.alloc (Obj.cells #[.int .i64 K, .int .i64 N, .string S, .slice a3 len c3] 51)) (.cells #[] 3); simpa using this
  have hWs : W.heap.size = w.heap.size + 1 + 1 := by rw [hW]; simp
  have HR0 : Hid (SMid w W #[.int .i64 K, .int .i64 N, .string S, .slice a3 len c3] [] (.slice (some ⟨w.heap.size + 1, 0, none⟩) 0 0)) := ⟨n1, IntRow.empty n2 (Nat.le_refl _), hWb, _, _, _, rfl⟩
  have HH : Hid (SlC d) := H
  clear e3 hK hN hS hz hz' hel n1 n2 hWb H
  rw [hW] at HR0
  by_cases hk : K = 3
  · subst hk
    by_cases hS : N = -1
    · have hon : Hid (ownSlot 3 N = []) := by show _ = _; unfold ownSlot; rw [if_neg]; exact fun h => h.2 hS
      have hne : (N != -1) = false := by simp [hS]
      clear hS
      go_enter Tryd.func53, Tryd.ntmps53
      go_wp2_with fail
      go_loopw [3, 4] (fun v i wr => ∃ j : Nat, j ≤ len ∧ i = .int .i64 j ∧ Hid (SMid w wr #[.int .i64 3, .int .i64 N, .string S, .slice a3 len c3] (ownSlot 3 N ++ (x.L.take j).flatMap (slotsP d)) v)) (fun _ i _ => len - (intOf i).toNat)
      case atStart => exact ⟨0, Nat.zero_le _, rfl, by rw [hon.out]; exact HR0⟩
      case round =>
        obtain ⟨j, hj, rfl, HM⟩ := hrel
        clear HR0
        obtain ⟨hbx, hrow, hbw, g, gn, gc, rfl⟩ := HM.out
        have b3 : wr.cell? ⟨w.heap.size, 3, none⟩ = some (.slice a3 len c3) := by rw [cell_of_row wr _ 3 _ _ _ hbx]; rfl
        by_cases hlt : j < len
        · obtain ⟨e, he⟩ : ∃ e, x.L[j]? = some e := ⟨_, List.getElem?_eq_getElem (by rw [HLN.out]; exact hlt)⟩
          obtain ⟨b, o, vs, rfl, hvl, hcell, hre⟩ := HE.out j e he
          obtain ⟨y0, y1, y2, ya3, yl3, yc3, rfl⟩ := PatR.shape _ _ _ _ hre
          have f0 : wr.cell? ⟨b, o + j * 4, none⟩ = some _ := cell_later hbw (hcell 0 _ rfl)
          have f1 : wr.cell? ⟨b, o + j * 4 + 1, none⟩ = some _ := cell_later hbw (hcell 1 _ rfl)
          have f2 : wr.cell? ⟨b, o + j * 4 + 2, none⟩ = some _ := cell_later hbw (hcell 2 _ rfl)
          have f3 : wr.cell? ⟨b, o + j * 4 + 3, none⟩ = some _ := cell_later hbw (hcell 3 _ rfl)
          have hC := HH.out _ e wr (PatR.lasts d _ _ _ _ hre hbw) (Nat.le_trans (szRow_mem he) HZ.out)
          have hlt' : (j : Int) < (len : Int) := by omega
          have HNX : Hid (ownSlot 3 N ++ (x.L.take (j + 1)).flatMap (slotsP d) = (ownSlot 3 N ++ (x.L.take j).flatMap (slotsP d)) ++ slotsP d e) := by
            show _ = _
            have hl := (List.getElem?_eq_some_iff.1 he).1
            rw [List.take_succ_eq_append_getElem hl, (List.getElem?_eq_some_iff.1 he).2, List.flatMap_append, List.append_assoc]
            simp
          have HBN := HB.out (j + 1)
          rw [HNX.out, List.length_append] at HBN
          clear hcell hre hvl hbx hrow hbw he
          go_wp2_with fail
          refine hC.mono ?_
          clear hC
          rintro r w2 ⟨g2, n2, c2, rfl, HR2, hb2⟩
          have HM2 : Hid (SMid w w2 _ _ _) := HM.out.later hb2
          obtain ⟨rfl, hcl2⟩ := HR2.out.cells
          have HCL : Hid (∀ (j : Nat) (u : Value), ((slotsP d e).map (Value.int .i64))[j]? = some u → w2.cell? ((⟨g2, 0, none⟩ : Addr).add j) = some u) := hcl2
          clear f0 f1 f2 f3 b3 HM hb2 hcl2 HR2
          go_wp2_with (first | (at_builtin; refine wpList_append_own_at _ rfl _ _ 76 rfl (w.heap.size + 1) 3 i0 (.int .i64 0) 1 8 Tryd.underlying76 hi hi0 hi1 hi2 rfl (by decide) _ _ _ rfl HM2.out.row ⟨g2, 0, none⟩ _ c2 ((slotsP d e).map (Value.int .i64)) rfl (by simp) HCL.out (by intro u hu; obtain ⟨q, _, rfl⟩ := List.mem_map.1 hu; rfl) (by unfold maxLen; omega) (by omega) (by have := lt_row HM2.out.1; omega) ?_; intro v' w3 hown3 hgrow3 hnil3 _; have HM3 : Hid (SMid w w3 _ _ v') := HM2.out.app hown3 hgrow3 hnil3; clear hown3 hgrow3 hnil3) | go_in)
          go_roundw
          case rel => exact ⟨j + 1, by omega, by go_num, by rw [HNX.out]; exact HM3⟩
          case measure => simp [intOf]; omega
        · obtain rfl : j = len := by omega
          have hlt' : ¬ (j : Int) < (j : Int) := by omega
          have HFN : Hid (IntRow wr w.heap.size (.slice (some ⟨g, 0, none⟩) gn gc) (slotsP (d + 1) x) ∧ Below w.heap.size w wr) := by
            refine ⟨?_, hbw⟩
            have e1 : x.L.take j = x.L := List.take_of_length_le (by rw [HLN.out]; exact Nat.le_refl _)
            rw [e1] at hrow
            rw [HV.out]
            refine ⟨hrow.1, ?_⟩
            rcases hrow.2 with h | ⟨g', c', cur, q1, q2, q3⟩
            · exact .inl h
            · exact .inr ⟨g', c', cur, q1, by omega, q3⟩
          clear hbx hrow HM HH
          go_wp2
          go_ret
          exact ⟨_, _, _, rfl, HFN.out.1, HFN.out.2⟩
    · have hon : Hid (ownSlot 3 N = [N]) := by show _ = _; unfold ownSlot; rw [if_pos ⟨rfl, hS⟩]
      have hne : (N != -1) = true := by simp [hS]
      clear hS
      go_enter Tryd.func53, Tryd.ntmps53
      go_wp2_with (first | (at_builtin; refine wpList_append_own_at _ rfl _ _ 76 rfl (w.heap.size + 1) 3 i0 (.int .i64 0) 1 8 Tryd.underlying76 hi hi0 hi1 hi2 rfl (by decide) _ _ _ rfl (HR0.out.row.alloc _) ⟨_, 0, none⟩ 1 1 ([N].map (Value.int .i64)) rfl rfl (new_one (.int .i64 N) 3 (by simp)) (by intro u hu; simp at hu; subst hu; rfl) (by unfold maxLen; simp) (by simp) (by simp <;> omega) ?_; intro v' w2 hown2 hgrow2 hnil2 _; have HM2 : Hid (SMid w w2 #[.int .i64 3, .int .i64 N, .string S, .slice a3 len c3] ([] ++ [N]) v') := (HR0.out.later ((Below.refl _ _).alloc (Nat.le_refl _) _)).app hown2 hgrow2 hnil2; clear hown2 hgrow2 hnil2) | go_in)
      go_loopw [3, 4] (fun v i wr => ∃ j : Nat, j ≤ len ∧ i = .int .i64 j ∧ Hid (SMid w wr #[.int .i64 3, .int .i64 N, .string S, .slice a3 len c3] (ownSlot 3 N ++ (x.L.take j).flatMap (slotsP d)) v)) (fun _ i _ => len - (intOf i).toNat)
      case atStart => exact ⟨0, Nat.zero_le _, rfl, by rw [hon.out]; exact HM2⟩
      case round =>
        obtain ⟨j, hj, rfl, HM⟩ := hrel
        clear HR0 HM2
        obtain ⟨hbx, hrow, hbw, g, gn, gc, rfl⟩ := HM.out
        have b3 : wr.cell? ⟨w.heap.size, 3, none⟩ = some (.slice a3 len c3) := by rw [cell_of_row wr _ 3 _ _ _ hbx]; rfl
        by_cases hlt : j < len
        · obtain ⟨e, he⟩ : ∃ e, x.L[j]? = some e := ⟨_, List.getElem?_eq_getElem (by rw [HLN.out]; exact hlt)⟩
          obtain ⟨b, o, vs, rfl, hvl, hcell, hre⟩ := HE.out j e he
          obtain ⟨y0, y1, y2, ya3, yl3, yc3, rfl⟩ := PatR.shape _ _ _ _ hre
          have f0 : wr.cell? ⟨b, o + j * 4, none⟩ = some _ := cell_later hbw (hcell 0 _ rfl)
          have f1 : wr.cell? ⟨b, o + j * 4 + 1, none⟩ = some _ := cell_later hbw (hcell 1 _ rfl)
          have f2 : wr.cell? ⟨b, o + j * 4 + 2, none⟩ = some _ := cell_later hbw (hcell 2 _ rfl)
          have f3 : wr.cell? ⟨b, o + j * 4 + 3, none⟩ = some _ := cell_later hbw (hcell 3 _ rfl)
          have hC := HH.out _ e wr (PatR.lasts d _ _ _ _ hre hbw) (Nat.le_trans (szRow_mem he) HZ.out)
          have hlt' : (j : Int) < (len : Int) := by omega
          have HNX : Hid (ownSlot 3 N ++ (x.L.take (j + 1)).flatMap (slotsP d) = (ownSlot 3 N ++ (x.L.take j).flatMap (slotsP d)) ++ slotsP d e) := by
            show _ = _
            have hl := (List.getElem?_eq_some_iff.1 he).1
            rw [List.take_succ_eq_append_getElem hl, (List.getElem?_eq_some_iff.1 he).2, List.flatMap_append, List.append_assoc]
            simp
          have HBN := HB.out (j + 1)
          rw [HNX.out, List.length_append] at HBN
          clear hcell hre hvl hbx hrow hbw he
          go_wp2_with fail
          refine hC.mono ?_
          clear hC
          rintro r w2 ⟨g2, n2, c2, rfl, HR2, hb2⟩
          have HM2 : Hid (SMid w w2 _ _ _) := HM.out.later hb2
          obtain ⟨rfl, hcl2⟩ := HR2.out.cells
          have HCL : Hid (∀ (j : Nat) (u : Value), ((slotsP d e).map (Value.int .i64))[j]? = some u → w2.cell? ((⟨g2, 0, none⟩ : Addr).add j) = some u) := hcl2
          clear f0 f1 f2 f3 b3 HM hb2 hcl2 HR2
          go_wp2_with (first | (at_builtin; refine wpList_append_own_at _ rfl _ _ 76 rfl (w.heap.size + 1) 3 i0 (.int .i64 0) 1 8 Tryd.underlying76 hi hi0 hi1 hi2 rfl (by decide) _ _ _ rfl HM2.out.row ⟨g2, 0, none⟩ _ c2 ((slotsP d e).map (Value.int .i64)) rfl (by simp) HCL.out (by intro u hu; obtain ⟨q, _, rfl⟩ := List.mem_map.1 hu; rfl) (by unfold maxLen; omega) (by omega) (by have := lt_row HM2.out.1; omega) ?_; intro v' w3 hown3 hgrow3 hnil3 _; have HM3 : Hid (SMid w w3 _ _ v') := HM2.out.app hown3 hgrow3 hnil3; clear hown3 hgrow3 hnil3) | go_in)
          go_roundw
          case rel => exact ⟨j + 1, by omega, by go_num, by rw [HNX.out]; exact HM3⟩
          case measure => simp [intOf]; omega
        · obtain rfl : j = len := by omega
          have hlt' : ¬ (j : Int) < (j : Int) := by omega
          have HFN : Hid (IntRow wr w.heap.size (.slice (some ⟨g, 0, none⟩) gn gc) (slotsP (d + 1) x) ∧ Below w.heap.size w wr) := by
            refine ⟨?_, hbw⟩
            have e1 : x.L.take j = x.L := List.take_of_length_le (by rw [HLN.out]; exact Nat.le_refl _)
            rw [e1] at hrow
            rw [HV.out]
            refine ⟨hrow.1, ?_⟩
            rcases hrow.2 with h | ⟨g', c', cur, q1, q2, q3⟩
            · exact .inl h
            · exact .inr ⟨g', c', cur, q1, by omega, q3⟩
          clear hbx hrow HM HH
          go_wp2
          go_ret
          exact ⟨_, _, _, rfl, HFN.out.1, HFN.out.2⟩
  · have hon : Hid (ownSlot K N = []) := by show _ = _; unfold ownSlot; rw [if_neg]; exact fun h => hk h.1
    go_enter Tryd.func53, Tryd.ntmps53
    go_wp2_with fail
    go_loopw [3, 4] (fun v i wr => ∃ j : Nat, j ≤ len ∧ i = .int .i64 j ∧ Hid (SMid w wr #[.int .i64 K, .int .i64 N, .string S, .slice a3 len c3] (ownSlot K N ++ (x.L.take j).flatMap (slotsP d)) v)) (fun _ i _ => len - (intOf i).toNat)
    case atStart => exact ⟨0, Nat.zero_le _, rfl, by rw [hon.out]; exact HR0⟩
    case round =>
      obtain ⟨j, hj, rfl, HM⟩ := hrel
      clear HR0
      obtain ⟨hbx, hrow, hbw, g, gn, gc, rfl⟩ := HM.out
      have b3 : wr.cell? ⟨w.heap.size, 3, none⟩ = some (.slice a3 len c3) := by rw [cell_of_row wr _ 3 _ _ _ hbx]; rfl
      by_cases hlt : j < len
      · obtain ⟨e, he⟩ : ∃ e, x.L[j]? = some e := ⟨_, List.getElem?_eq_getElem (by rw [HLN.out]; exact hlt)⟩
        obtain ⟨b, o, vs, rfl, hvl, hcell, hre⟩ := HE.out j e he
        obtain ⟨y0, y1, y2, ya3, yl3, yc3, rfl⟩ := PatR.shape _ _ _ _ hre
        have f0 : wr.cell? ⟨b, o + j * 4, none⟩ = some _ := cell_later hbw (hcell 0 _ rfl)
        have f1 : wr.cell? ⟨b, o + j * 4 + 1, none⟩ = some _ := cell_later hbw (hcell 1 _ rfl)
        have f2 : wr.cell? ⟨b, o + j * 4 + 2, none⟩ = some _ := cell_later hbw (hcell 2 _ rfl)
        have f3 : wr.cell? ⟨b, o + j * 4 + 3, none⟩ = some _ := cell_later hbw (hcell 3 _ rfl)
        have hC := HH.out _ e wr (PatR.lasts d _ _ _ _ hre hbw) (Nat.le_trans (szRow_mem he) HZ.out)
        have hlt' : (j : Int) < (len : Int) := by omega
        have HNX : Hid (ownSlot K N ++ (x.L.take (j + 1)).flatMap (slotsP d) = (ownSlot K N ++ (x.L.take j).flatMap (slotsP d)) ++ slotsP d e) := by
          show _ = _
          have hl := (List.getElem?_eq_some_iff.1 he).1
          rw [List.take_succ_eq_append_getElem hl, (List.getElem?_eq_some_iff.1 he).2, List.flatMap_append, List.append_assoc]
          simp
        have HBN := HB.out (j + 1)
        rw [HNX.out, List.length_append] at HBN
        clear hcell hre hvl hbx hrow hbw he
        go_wp2_with fail
        refine hC.mono ?_
        clear hC
        rintro r w2 ⟨g2, n2, c2, rfl, HR2, hb2⟩
        have HM2 : Hid (SMid w w2 _ _ _) := HM.out.later hb2
        obtain ⟨rfl, hcl2⟩ := HR2.out.cells
        have HCL : Hid (∀ (j : Nat) (u : Value), ((slotsP d e).map (Value.int .i64))[j]? = some u → w2.cell? ((⟨g2, 0, none⟩ : Addr).add j) = some u) := hcl2
        clear f0 f1 f2 f3 b3 HM hb2 hcl2 HR2
        go_wp2_with (first | (at_builtin; refine wpList_append_own_at _ rfl _ _ 76 rfl (w.heap.size + 1) 3 i0 (.int .i64 0) 1 8 Tryd.underlying76 hi hi0 hi1 hi2 rfl (by decide) _ _ _ rfl HM2.out.row ⟨g2, 0, none⟩ _ c2 ((slotsP d e).map (Value.int .i64)) rfl (by simp) HCL.out (by intro u hu; obtain ⟨q, _, rfl⟩ := List.mem_map.1 hu; rfl) (by unfold maxLen; omega) (by omega) (by have := lt_row HM2.out.1; omega) ?_; intro v' w3 hown3 hgrow3 hnil3 _; have HM3 : Hid (SMid w w3 _ _ v') := HM2.out.app hown3 hgrow3 hnil3; clear hown3 hgrow3 hnil3) | go_in)
        go_roundw
        case rel => exact ⟨j + 1, by omega, by go_num, by rw [HNX.out]; exact HM3⟩
        case measure => simp [intOf]; omega
      · obtain rfl : j = len := by omega
        have hlt' : ¬ (j : Int) < (j : Int) := by omega
        have HFN : Hid (IntRow wr w.heap.size (.slice (some ⟨g, 0, none⟩) gn gc) (slotsP (d + 1) x) ∧ Below w.heap.size w wr) := by
          refine ⟨?_, hbw⟩
          have e1 : x.L.take j = x.L := List.take_of_length_le (by rw [HLN.out]; exact Nat.le_refl _)
          rw [e1] at hrow
          rw [HV.out]
          refine ⟨hrow.1, ?_⟩
          rcases hrow.2 with h | ⟨g', c', cur, q1, q2, q3⟩
          · exact .inl h
          · exact .inr ⟨g', c', cur, q1, by omega, q3⟩
        clear hbx hrow HM HH
        go_wp2
        go_ret
        exact ⟨_, _, _, rfl, HFN.out.1, HFN.out.2⟩

theorem l9Slots_any : ∀ d, SlC d := by
  intro d
  induction d with
  | zero => intro vs e w h; exact h.elim
  | succ d ih => exact l9Slots_of d ih


end Go.Proofs.YtfachfimdenapaaDoor

/- Whether a pattern fits: the model's. -/
namespace Go.Proofs.YtfachfimdenapaaDoor
open Go.RowKit
set_option linter.unusedVariables false

def pPatFits : (d : Nat) → Tm d → Int → Prop
  | 0, _, _ => False
  | d + 1, x, sl => (0 ≤ sl ∧ sl ≤ 400) ∧ RightQ sl d x.K x.N x.S x.L 10 300 ∧ (slotsP (d + 1) x).Nodup

theorem nodup_no {l : List Int} {i k : Nat} {x : Int} (hk : k < i) (h1 : l[k]? = some x) (h2 : l[i]? = some x) : ¬ l.Nodup := fun h => by
  obtain ⟨p1, p2⟩ := List.getElem?_eq_some_iff.1 h1
  obtain ⟨q1, q2⟩ := List.getElem?_eq_some_iff.1 h2
  have := (List.pairwise_iff_getElem.1 h) k i p1 q1 hk
  exact this (by rw [p2, q2])
theorem nodup_yes {l : List Int} (h : ∀ (i : Nat), i < l.length → ∀ (k : Nat) (x y : Int), k < i → l[k]? = some x → l[i]? = some y → ¬ x = y) : l.Nodup := by
  refine List.pairwise_iff_getElem.2 fun k i hk hi hki e => ?_
  exact h i hi k l[k] l[i] hki (List.getElem?_eq_getElem hk) (List.getElem?_eq_getElem hi) e

set_option maxRecDepth 100000 in
set_option maxHeartbeats 4000000 in
theorem specPatFits_any (d : Nat) (vs : List Value) (x : Tm d) (sl : Int) (w : World) (hr : PatR d w vs x) (hw : WfPat d x) (hz : szPatD d x ≤ 1048576) (hi : I64 sl) :
    Calls Tryd.prog 34 #[.agg vs.toArray, .int .i64 sl] w fun e w' => BRes (pPatFits d x sl) w e w' := by
  cases d with
  | zero => exact hr.elim
  | succ d =>
  have HSL := l9Slots_any (d + 1) vs x
  have HPR : Hid (∀ V : World, Below w.heap.size w V → PatR (d + 1) V vs x) := fun V hV => PatR.lasts (d + 1) _ _ _ _ hr hV
  have HZ : Hid (szPatD (d + 1) x ≤ 1048576) := hz
  obtain ⟨lv, rfl, h1⟩ := hr
  obtain ⟨a, l, c, rfl⟩ := h1.sl
  have HRD : Hid (∀ V : World, Below w.heap.size w V → RdL d V (.slice a l c) x.L) := fun V hV => pat_rd d V _ _ (h1.later (PatR.lasts d) hV)
  have HWL : Hid (WfL d x.L ∧ x.S.size ≤ 9223372036854775807) := ⟨pat_wf d _ hw.2.2.2, by have := hw.2.2.1; unfold maxLen at this; omega⟩
  have hlen := slotsP_len (d + 1) x
  have HSM : Hid ((slotsP (d + 1) x).length ≤ 1048577) := by show _ ≤ _; omega
  obtain ⟨W, hW⟩ : ∃ W, W = w.alloc (.cells #[.int .i64 x.K, .int .i64 x.N, .string x.S, .slice a l c] 51) := ⟨_, rfl⟩
  have HA : Hid (Below w.heap.size w W) := by rw [hW]; exact (Below.refl _ _).alloc (Nat.le_refl _) _
  have n1 : W.heap[w.heap.size]? = some (.cells #[.int .i64 x.K, .int .i64 x.N, .string x.S, .slice a l c] 51 (0, 0)) := by rw [hW]; exact heap_alloc_new w _
  have HB : Hid (W.heap[w.heap.size]? = some (.cells #[.int .i64 x.K, .int .i64 x.N, .string x.S, .slice a l c] 51 (0, 0))) := n1
  have d0 : W.cell? ⟨w.heap.size, 0, none⟩ = some (.int .i64 x.K) := by rw [cell_of_row W _ 0 _ _ _ n1]; rfl
  have d1 : W.cell? ⟨w.heap.size, 1, none⟩ = some (.int .i64 x.N) := by rw [cell_of_row W _ 1 _ _ _ n1]; rfl
  have d2 : W.cell? ⟨w.heap.size, 2, none⟩ = some (.string x.S) := by rw [cell_of_row W _ 2 _ _ _ n1]; rfl
  have d3 : W.cell? ⟨w.heap.size, 3, none⟩ = some (.slice a l c) := by rw [cell_of_row W _ 3 _ _ _ n1]; rfl
  have hC1 := in_call sl 0 400 W
  rw [hW] at hC1
  have HW : Hid (W = _) := hW
  clear h1 hw hz hlen n1 hW
  go_enter Tryd.func34, Tryd.ntmps34
  go_wp2_with fail
  refine hC1.mono ?_
  clear hC1
  rintro e w1 ⟨b1, rfl, hb1, hw1⟩
  rw [← HW.out] at hw1
  subst hw1
  clear HW
  cases b1 with
  | false =>
    have HF : Hid (¬ pPatFits (d + 1) x sl) := fun h => by have := hb1.2 h.1; cases this
    go_wp2_with fail
    go_ret
    exact bres_no HF.out HA.out
  | true =>
  have hsl : 0 ≤ sl ∧ sl ≤ 400 := hb1.1 rfl
  have HS1 : Hid (0 ≤ sl ∧ sl ≤ 400) := hsl
  have hC2 := lookQ_any sl hsl.1 (by omega) d x.K x.N x.S (.slice a l c) x.L 10 300 W (HRD.out W HA.out) HWL.out.1 HWL.out.2 (by omega) (by omega) (by omega) (by omega)
  clear hb1 hsl
  go_wp2_with fail
  refine hC2.mono ?_
  clear hC2 d0 d1 d2 d3
  rintro e w2 ⟨r, rfl, hrr, hB2⟩
  have HBW : Hid (Below w.heap.size w w2) := HA.out.trans (hB2.mono HA.out.size)
  have n2 := (hB2.block _ (lt_row HB.out)).trans HB.out
  have d0 : w2.cell? ⟨w.heap.size, 0, none⟩ = some (.int .i64 x.K) := by rw [cell_of_row w2 _ 0 _ _ _ n2]; rfl
  have d1 : w2.cell? ⟨w.heap.size, 1, none⟩ = some (.int .i64 x.N) := by rw [cell_of_row w2 _ 1 _ _ _ n2]; rfl
  have d2 : w2.cell? ⟨w.heap.size, 2, none⟩ = some (.string x.S) := by rw [cell_of_row w2 _ 2 _ _ _ n2]; rfl
  have d3 : w2.cell? ⟨w.heap.size, 3, none⟩ = some (.slice a l c) := by rw [cell_of_row w2 _ 3 _ _ _ n2]; rfl
  clear hB2 n2
  by_cases hr0 : r < 0
  · have HF : Hid (¬ pPatFits (d + 1) x sl) := fun h => by
      rcases hrr with ⟨q1, q2⟩ | ⟨q1, q2⟩
      · have := q1.2.2.2; omega
      · exact q1 h.2.1
    clear hrr d0 d1 d2 d3
    go_wp2_with fail
    go_ret
    exact bres_no HF.out HBW.out
  have HRT : Hid (RightQ sl d x.K x.N x.S x.L 10 300) := by
    rcases hrr with ⟨q1, q2⟩ | ⟨q1, q2⟩
    · exact q1
    · omega
  clear hrr
  have hC3 := HSL w2 (HPR.out w2 HBW.out) HZ.out
  clear HSL
  go_wp2_with fail
  refine hC3.mono ?_
  clear hC3 d0 d1 d2 d3
  rintro e w3 ⟨g, gn, gc, rfl, HR3, hB3⟩
  obtain ⟨hgn, hcl⟩ := HR3.out.cells
  have HB3 : Hid (Below w.heap.size w w3) := HBW.out.trans (hB3.mono HBW.out.size)
  obtain ⟨sl', hsl'⟩ : ∃ s, slotsP (d + 1) x = s := ⟨_, rfl⟩
  have HSP : Hid (slotsP (d + 1) x = sl') := hsl'
  rw [hsl'] at hgn hcl HSM
  have hlm : gn ≤ 1048577 := by have := HSM.out; omega
  have HC : Hid (∀ (j : Nat) (y : Int), sl'[j]? = some y → w3.cell? ⟨g, j, none⟩ = some (.int .i64 y)) := fun j y hy => by
    have := hcl j (.int .i64 y) (by rw [List.getElem?_map, hy]; rfl)
    rw [Addr.add_lit, Nat.zero_add] at this
    exact this
  have HGN : Hid (sl'.length = gn) := hgn.symm
  clear hB3 HR3 hcl hsl' hgn
  go_wp2_with fail
  go_loopw [6] (fun i wr => ∃ k : Nat, k ≤ gn ∧ i = .int .i64 k ∧ Below w3.heap.size w3 wr ∧ Hid (∀ (i : Nat), i < k → ∀ (j : Nat) (u v : Int), j < i → sl'[j]? = some u → sl'[i]? = some v → ¬ u = v)) (fun i _ => gn - (intOf i).toNat)
  case atStart => exact ⟨0, Nat.zero_le _, rfl, Below.refl _ _, fun j hj => absurd hj (Nat.not_lt_zero _)⟩
  case round =>
    obtain ⟨k, hk, rfl, hbw, HN⟩ := hrel
    have HBX : Hid (Below w3.heap.size w3 wr ∧ Below w.heap.size w wr) := ⟨hbw, HB3.out.trans (hbw.mono HB3.out.size)⟩
    clear hbw
    by_cases hkl : k < gn
    · obtain ⟨t, ht⟩ : ∃ t, sl'[k]? = some t := ⟨_, List.getElem?_eq_getElem (by have := HGN.out; omega)⟩
      have HT : Hid (sl'[k]? = some t) := ht
      have hkl' : (k : Int) < (gn : Int) := by omega
      clear ht
      go_wp2_with fail
      go_loopw [7] (fun i wr => ∃ q : Nat, q ≤ k ∧ i = .int .i64 q ∧ Below w3.heap.size w3 wr ∧ Hid (∀ (j : Nat) (u : Int), j < q → sl'[j]? = some u → ¬ u = t)) (fun i _ => k - (intOf i).toNat)
      case atStart => exact ⟨0, Nat.zero_le _, rfl, HBX.out.1, fun j g hj => absurd hj (Nat.not_lt_zero _)⟩
      case round =>
        obtain ⟨q, hq, rfl, hbv, HM⟩ := hrel
        have HBY : Hid (Below w3.heap.size w3 wr ∧ Below w.heap.size w wr) := ⟨hbv, HB3.out.trans (hbv.mono HB3.out.size)⟩
        clear hbv
        by_cases hql : q < k
        · obtain ⟨u, hu⟩ : ∃ u, sl'[q]? = some u := ⟨_, List.getElem?_eq_getElem (by have := HGN.out; omega)⟩
          have f0 := cell_later HBY.out.1 (HC.out q u hu)
          have f1 := cell_later HBY.out.1 (HC.out k t HT.out)
          have hql' : (q : Int) < (k : Int) := by omega
          have hql2 : (q : Int) < (gn : Int) := by omega
          have HU : Hid (sl'[q]? = some u) := hu
          clear hu
          by_cases huv : u = t
          · subst huv
            have HF : Hid (¬ pPatFits (d + 1) x sl) := fun h => nodup_no hql HU.out HT.out (by have := h.2.2; rw [HSP.out] at this; exact this)
            clear HM HN
            go_wp2_with fail
            go_region
            all_goals
              have HBZ : Hid (Below w.heap.size w wr.drew) := HBY.out.2.drew
              go_wp2_with fail
              go_ret
              exact bres_no HF.out HBZ.out
          · have HF : Hid (∀ (j : Nat) (z : Int), j < q + 1 → sl'[j]? = some z → ¬ z = t) := fun j z hj hz => by
              rcases Nat.lt_or_ge j q with v | v
              · exact HM.out j z v hz
              · obtain rfl : j = q := by omega
                have := HU.out.symm.trans hz
                cases this
                exact huv
            clear HM
            go_wp2_with fail
            go_region
            all_goals
              have HBZ : Hid (Below w3.heap.size w3 wr.drew) := HBY.out.1.drew
              go_wp2_with fail
              go_roundw
              case rel => exact ⟨q + 1, by omega, by go_num, HBZ.out, HF⟩
              case measure => simp [intOf]; omega
        · obtain rfl : q = k := by omega
          have hql' : decide ((q : Int) < (q : Int)) = false := by simp
          have HF : Hid (∀ (i : Nat), i < q + 1 → ∀ (j : Nat) (u v : Int), j < i → sl'[j]? = some u → sl'[i]? = some v → ¬ u = v) := fun i hi j u v hj hu hv => by
            rcases Nat.lt_or_ge i q with z | z
            · exact HN.out i z j u v hj hu hv
            · obtain rfl : i = q := by omega
              have := HT.out.symm.trans hv
              cases this
              exact HM.out j u hj hu
          clear HM HN
          go_wp2_with fail
          go_roundw
          case rel => exact ⟨q + 1, by omega, by go_num, HBY.out.1, HF⟩
          case measure => simp [intOf]; omega
    · obtain rfl : k = gn := by omega
      have hkl' : decide ((k : Int) < (k : Int)) = false := by simp
      have HF : Hid (pPatFits (d + 1) x sl) := ⟨HS1.out, HRT.out, by rw [HSP.out]; exact nodup_yes fun i hi => HN.out i (by have := HGN.out; omega)⟩
      clear HN
      go_wp2_with fail
      go_ret
      exact bres_yes HF.out HBX.out.2

end Go.Proofs.YtfachfimdenapaaDoor
