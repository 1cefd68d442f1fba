/- Patterns by slots: their shapes, and the model's walk over them. -/
import Derived.Test.YtgmddookohkhlaaOkM
import Derived.Test.YtgmddookohkhlaaDt0M
import Derived.Test.YtgmddookohkhlaaFxM
import Derived.Test.YtgmddookohkhlaaGetTM
namespace Go.Proofs.Ytgmddookohkhlaa
open Go.RowKit
set_option linter.unusedVariables false

/-- The shape of a pattern by slots. -/
def ShapeQ (sl k n : Int) (s : ByteArray) (len : Nat) : Prop :=
  (k = 1 ∧ (0 ≤ n ∧ n ≤ 1000000000000) ∧ s.size = 0 ∧ len = 0) ∨ (k = 2 ∧ (AtomP s ∧ ¬ Wrd s) ∧ n = 0 ∧ len = 0) ∨ (k = 3 ∧ s.size = 0 ∧ len = 0 ∧ (-1 ≤ n ∧ n ≤ sl - 1)) ∨ ((k = 4 ∨ k = 5) ∧ s.size = 0 ∧ n = 0 ∧ len ≤ 20) ∨ (k = 6 ∧ s.size = 0 ∧ n = 0 ∧ (2 ≤ (len : Int) ∧ (len : Int) ≤ 6))

theorem shapeQ1 (sl n : Int) (s : ByteArray) (len : Nat) : ShapeQ sl 1 n s len ↔ (0 ≤ n ∧ n ≤ 1000000000000) ∧ s.size = 0 ∧ len = 0 := by simp [ShapeQ]
theorem shapeQ2 (sl n : Int) (s : ByteArray) (len : Nat) : ShapeQ sl 2 n s len ↔ (AtomP s ∧ ¬ Wrd s) ∧ n = 0 ∧ len = 0 := by simp [ShapeQ]
theorem shapeQ3 (sl n : Int) (s : ByteArray) (len : Nat) : ShapeQ sl 3 n s len ↔ s.size = 0 ∧ len = 0 ∧ (-1 ≤ n ∧ n ≤ sl - 1) := by simp [ShapeQ]
theorem shapeQ4 (sl n : Int) (s : ByteArray) (len : Nat) : ShapeQ sl 4 n s len ↔ s.size = 0 ∧ n = 0 ∧ len ≤ 20 := by simp [ShapeQ]
theorem shapeQ5 (sl n : Int) (s : ByteArray) (len : Nat) : ShapeQ sl 5 n s len ↔ s.size = 0 ∧ n = 0 ∧ len ≤ 20 := by simp [ShapeQ]
theorem shapeQ6 (sl n : Int) (s : ByteArray) (len : Nat) : ShapeQ sl 6 n s len ↔ s.size = 0 ∧ n = 0 ∧ (2 ≤ (len : Int) ∧ (len : Int) ≤ 6) := by simp [ShapeQ]

theorem in_call (x lo hi : Int) (w : World) : Calls Try.prog 28 #[.int .i64 x, .int .i64 lo, .int .i64 hi] w fun e w' => ∃ b : Bool, e = .returned (.bool b) ∧ (b = true ↔ lo ≤ x ∧ x ≤ hi) ∧ w = w' :=
  (specIn_any x lo hi w).mono fun e w' ⟨h1, h2⟩ => ⟨_, h1, by simp, h2⟩

end Go.Proofs.Ytgmddookohkhlaa

/- The model's walk over a pattern by slots. -/
namespace Go.Proofs.Ytgmddookohkhlaa
open Go.RowKit
set_option linter.unusedVariables false

/-- A list of patterns is read as one of terms is. -/
theorem pat_rd : ∀ (d : Nat) (w : World) (v : Value) (ts : List (Tm d)), RowOf 4 (PatR d) w v ts → RdL d w v ts := by
  intro d
  induction d with
  | zero =>
    rintro w v ts ⟨a, c, rfl, _⟩
    cases ts with
    | nil => exact ⟨a, c, rfl⟩
    | cons t _ => exact Empty.elim t
  | succ d ih =>
    rintro w v ts ⟨a, c, rfl, h⟩
    refine ⟨a, c, rfl, fun i t ht => ?_⟩
    obtain ⟨b, o, vs, h1, h2, h3, v3, rfl, h4⟩ := h i t ht
    exact ⟨b, o, v3, h1, ⟨h3 0 _ rfl, h3 1 _ rfl, h3 2 _ rfl, h3 3 _ rfl⟩, ih _ _ _ h4⟩
theorem pat_wf : ∀ (d : Nat) (ts : List (Tm d)), WfRow (WfPat d) ts → WfL d ts := by
  intro d
  induction d with
  | zero => intro ts _; trivial
  | succ d ih =>
    rintro ts ⟨h1, h2⟩
    exact ⟨h1, fun t ht => ⟨(h2 t ht).1, (h2 t ht).2.1, (h2 t ht).2.2.1, ih _ (h2 t ht).2.2.2⟩⟩

/-- All terms of a list have their shapes, all storeys. -/
def OkQ (sl : Int) : (d : Nat) → List (Tm d) → Prop
  | 0, _ => True
  | d + 1, ts => ∀ t ∈ ts, ShapeQ sl t.K t.N t.S t.L.length ∧ OkQ sl d t.L

/-- A term that is right, no deeper than told, of no more than are left. -/
def RightQ (sl : Int) (d : Nat) (k n : Int) (s : ByteArray) (ts : List (Tm d)) (deep left : Int) : Prop :=
  ShapeQ sl k n s ts.length ∧ OkQ sl d ts ∧ ((1 + depL d ts : Nat) : Int) ≤ deep ∧ ((1 + cntL d ts : Nat) : Int) ≤ left

/-- The contract of a walk that tells how many may be left. -/
def LookQ (sl : Int) (f d : Nat) : Prop := ∀ (k n : Int) (s : ByteArray) (l : Value) (ts : List (Tm d)) (deep left : Int) (w : World), RdL d w l ts → WfL d ts → s.size ≤ 9223372036854775807 → -1000 ≤ deep → deep ≤ 1000 → -1000 ≤ left → left ≤ 1000000 →
  Calls Try.prog f #[.agg #[.int .i64 k, .int .i64 n, .string s, l], .int .i64 sl, .int .i64 deep, .int .i64 left] w fun e w' => ∃ r : Int, e = .returned (.int .i64 r) ∧ ((RightQ sl d k n s ts deep left ∧ r = left - (1 + cntL d ts : Nat)) ∨ (¬ RightQ sl d k n s ts deep left ∧ r = -1)) ∧ Below w.heap.size w w'

theorem right_zeroQ {sl : Int} {k n : Int} {s : ByteArray} {ts : List (Tm 0)} {deep left : Int} (h1 : ¬ deep < 1) (h2 : ¬ left < 1) (h3 : ShapeQ sl k n s ts.length) : RightQ sl 0 k n s ts deep left :=
  ⟨h3, trivial, by show ((1 + 0 : Nat) : Int) ≤ deep; omega, by show ((1 + 0 : Nat) : Int) ≤ left; omega⟩

/-- The first j terms of a list are right. -/
def RightPQ (sl : Int) (d : Nat) (ts : List (Tm (d + 1))) (deep left : Int) (j : Nat) : Prop :=
  (∀ i t, i < j → ts[i]? = some t → ShapeQ sl t.K t.N t.S t.L.length ∧ OkQ sl d t.L ∧ ((1 + depL d t.L : Nat) : Int) ≤ deep - 1) ∧ ((1 + cntP d ts j : Nat) : Int) ≤ left

theorem rightP_allQ {sl : Int} {d : Nat} {k n : Int} {s : ByteArray} {ts : List (Tm (d + 1))} {deep left : Int} {j : Nat} (hd : ¬ deep < 1) (h3 : ShapeQ sl k n s ts.length) (hj : ts.length ≤ j) (h : RightPQ sl d ts deep left j) : RightQ sl (d + 1) k n s ts deep left := by
  refine ⟨h3, fun t ht => ?_, ?_, by have := h.2; rw [cntP_all d ts j hj] at this; exact this⟩
  · obtain ⟨i, hi, e⟩ := List.getElem_of_mem ht
    have := h.1 i t (by omega) (by rw [List.getElem?_eq_getElem hi, e])
    exact ⟨this.1, this.2.1⟩
  · have : depL (d + 1) ts ≤ (deep - 1).toNat := depL_le.2 fun t ht => by
      obtain ⟨i, hi, e⟩ := List.getElem_of_mem ht
      have := (h.1 i t (by omega) (by rw [List.getElem?_eq_getElem hi, e])).2.2
      omega
    omega

theorem right_elemQ {sl : Int} {d : Nat} {k n : Int} {s : ByteArray} {ts : List (Tm (d + 1))} {deep left : Int} {j : Nat} {t : Tm (d + 1)} (ht : ts[j]? = some t) (h : RightQ sl (d + 1) k n s ts deep left) : RightQ sl d t.K t.N t.S t.L (deep - 1) (left - 1 - cntP d ts j) := by
  have hm := List.mem_of_getElem? ht
  obtain ⟨_, h2, h3, h4⟩ := h
  have h5 := h2 t hm
  have h6 : 1 + depL d t.L ≤ depL (d + 1) ts := (depL_le (m := depL (d + 1) ts)).1 (Nat.le_refl _) t hm
  have h7 := cntP_succ d ts j t ht
  have h8 := cntP_le d ts (j + 1)
  exact ⟨h5.1, h5.2, by omega, by omega⟩

theorem rightP_stepQ {sl : Int} {d : Nat} {ts : List (Tm (d + 1))} {deep left : Int} {j : Nat} {t : Tm (d + 1)} (ht : ts[j]? = some t) (h : RightPQ sl d ts deep left j) (hr : RightQ sl d t.K t.N t.S t.L (deep - 1) (left - 1 - cntP d ts j)) : RightPQ sl d ts deep left (j + 1) := by
  have h7 := cntP_succ d ts j t ht
  obtain ⟨r1, r2, r3, r4⟩ := hr
  refine ⟨fun i u hi hu => ?_, by omega⟩
  by_cases hij : i < j
  · exact h.1 i u hij hu
  · obtain rfl : i = j := by omega
    rw [ht] at hu
    obtain rfl := Option.some.inj hu
    exact ⟨r1, r2, r3⟩

end Go.Proofs.Ytgmddookohkhlaa

/- The slots of a pattern: the model's. -/
namespace Go.Proofs.Ytgmddookohkhlaa
open Go.RowKit
set_option linter.unusedVariables false

def ownSlot (k n : Int) : List Int := if k = 3 ∧ n ≠ -1 then [n] else []
/-- The slots of a pattern, from the left. -/
def slotsP : (d : Nat) → Tm d → List Int
  | 0, _ => []
  | d + 1, e => ownSlot e.K e.N ++ e.L.flatMap (slotsP d)

theorem ownSlot_len (k n : Int) : (ownSlot k n).length ≤ 1 := by unfold ownSlot; split <;> simp

theorem slotsP_len : ∀ (d : Nat) (e : Tm d), (slotsP d e).length ≤ 1 + szPatD d e := by
  intro d
  induction d with
  | zero => intro e; exact Nat.zero_le _
  | succ d ih =>
    intro e
    have h1 := ownSlot_len e.K e.N
    have h2 : (e.L.flatMap (slotsP d)).length ≤ szRow (szPatD d) e.L := by
      unfold szRow
      generalize e.L = l
      induction l with
      | nil => exact Nat.zero_le _
      | cons x l ihl => simp only [List.flatMap_cons, List.length_append, List.map_cons, List.sum_cons, List.length_cons]; have := ih x; omega
    show (ownSlot e.K e.N ++ e.L.flatMap (slotsP d)).length ≤ 1 + (e.S.size + szRow (szPatD d) e.L)
    rw [List.length_append]
    omega

/-- A row of texts in memory of one's own. -/
def IntRow (w : World) (B : Nat) (v : Value) (l : List Int) : Prop := w.ownsRow B 3 1 v l.length (l.map (Value.int .i64))


theorem IntRow.cells {w : World} {B g n c : Nat} {l : List Int} (h : IntRow w B (.slice (some ⟨g, 0, none⟩) n c) l) : n = l.length ∧ ∀ (j : Nat) (u : Value), (l.map (Value.int .i64))[j]? = some u → w.cell? ((⟨g, 0, none⟩ : Addr).add j) = some u := by
  rcases h.2 with ⟨e, _⟩ | ⟨g', cap, cur, e, _, hg, _, _, hs, ht⟩
  · cases e
  · simp only [Value.slice.injEq, Option.some.injEq, Addr.mk.injEq, and_true] at e
    obtain ⟨rfl, rfl, rfl⟩ := e
    refine ⟨rfl, fun j u hu => ?_⟩
    have hj : j < l.length := by have := (List.getElem?_eq_some_iff.1 hu).1; simpa using this
    rw [Addr.add_lit, Nat.zero_add, cell_of_row w _ _ _ _ _ hg]
    rw [Nat.mul_one] at ht
    rw [← ht, List.getElem?_take, if_pos hj] at hu
    simpa using hu

theorem IntRow.kept {w w' : World} {B : Nat} {v : Value} {l : List Int} (h : IntRow w B v l) (hk : ∀ g, v.ownBlock = some g → w'.heap[g]? = w.heap[g]?) : IntRow w' B v l := rowKept h hk
theorem IntRow.blk {w : World} {B : Nat} {v : Value} {l : List Int} (h : IntRow w B v l) : ∀ g, v.ownBlock = some g → B ≤ g ∧ g < w.heap.size := fun g hg => by
  rcases h.2 with ⟨e, _⟩ | ⟨g', c', cur, e1, e2, e3, _⟩
  · rw [e] at hg; cases hg
  · rw [e1] at hg
    obtain rfl : g' = g := by simpa [Value.ownBlock] using hg
    exact ⟨e2, lt_row e3⟩
theorem IntRow.empty {w : World} {g B : Nat} (h : w.heap[g]? = some (.cells #[] 3 (0, 0))) (hB : B ≤ g) : IntRow w B (.slice (some ⟨g, 0, none⟩) 0 0) [] :=
  ⟨rfl, .inr ⟨g, 0, #[], rfl, hB, h, Nat.le_refl _, Nat.zero_le _, rfl, rfl⟩⟩
theorem IntRow.ptr {w w' : World} {B : Nat} {v v' : Value} {l : List Int} (h : IntRow w B v' l) (hv : v' = .slice none 0 0 ↔ v = .slice none 0 0 ∧ False) : ∃ g n c, v' = .slice (some ⟨g, 0, none⟩) n c := by
  rcases h.2 with ⟨e, _⟩ | ⟨g', c', cur, e1, _⟩
  · exact absurd (hv.1 e).2 id
  · exact ⟨_, _, _, e1⟩

end Go.Proofs.Ytgmddookohkhlaa

/- Whether a pattern fits: the model's. -/
namespace Go.Proofs.Ytgmddookohkhlaa
open Go.RowKit
set_option linter.unusedVariables false

def pPatFits : (d : Nat) → Tm d → Int → Prop
  | 0, _, _ => False
  | d + 1, x, sl => (0 ≤ sl ∧ sl ≤ 400) ∧ RightQ sl d x.K x.N x.S x.L 10 300 ∧ (slotsP (d + 1) x).Nodup

theorem nodup_no {l : List Int} {i k : Nat} {x : Int} (hk : k < i) (h1 : l[k]? = some x) (h2 : l[i]? = some x) : ¬ l.Nodup := fun h => by
  obtain ⟨p1, p2⟩ := List.getElem?_eq_some_iff.1 h1
  obtain ⟨q1, q2⟩ := List.getElem?_eq_some_iff.1 h2
  have := (List.pairwise_iff_getElem.1 h) k i p1 q1 hk
  exact this (by rw [p2, q2])
theorem nodup_yes {l : List Int} (h : ∀ (i : Nat), i < l.length → ∀ (k : Nat) (x y : Int), k < i → l[k]? = some x → l[i]? = some y → ¬ x = y) : l.Nodup := by
  refine List.pairwise_iff_getElem.2 fun k i hk hi hki e => ?_
  exact h i hi k l[k] l[i] hki (List.getElem?_eq_getElem hk) (List.getElem?_eq_getElem hi) e

end Go.Proofs.Ytgmddookohkhlaa
