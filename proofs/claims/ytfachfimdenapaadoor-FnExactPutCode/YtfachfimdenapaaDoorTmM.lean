/- Terms as plain data, how they lie in memory, and the law's own measure of them. -/
import Derived.Test.YtfachfimdenapaaDoorRows
import Derived.WalkKit
import Derived.WalkSpells
import Derived.WalkLawsBesides
import Derived.BigQuiet
import Derived.Deep.QuietTactic
import Derived.Deep.RegionWith
import Derived.ProofKit
import Derived.OpenShut
import Derived.Deep.Slices
import Derived.Lib.SmallJoins
namespace Go.Proofs.YtfachfimdenapaaDoor
open Go.RowKit

/-- A term of at most d storeys: its kind, its number, its text, what is in it. -/
def Tm : Nat → Type
  | 0 => Empty
  | d + 1 => Int × Int × ByteArray × List (Tm d)

def Tm.K {d : Nat} (t : Tm (d + 1)) : Int := t.1
def Tm.N {d : Nat} (t : Tm (d + 1)) : Int := t.2.1
def Tm.S {d : Nat} (t : Tm (d + 1)) : ByteArray := t.2.2.1
def Tm.L {d : Nat} (t : Tm (d + 1)) : List (Tm d) := t.2.2.2

/-- Four cells that hold a term's fields. -/
def Four (w : World) (b o : Nat) (k n : Int) (s : ByteArray) (v : Value) : Prop :=
  w.cell? ⟨b, o, none⟩ = some (.int .i64 k) ∧ w.cell? ⟨b, o + 1, none⟩ = some (.int .i64 n) ∧ w.cell? ⟨b, o + 2, none⟩ = some (.string s) ∧ w.cell? ⟨b, o + 3, none⟩ = some v

/-- A value that is a slice of the terms ts. -/
def RdL : (d : Nat) → World → Value → List (Tm d) → Prop
  | 0, _, v, _ => ∃ a c, v = .slice a 0 c
  | d + 1, w, v, ts => ∃ a c, v = .slice a ts.length c ∧ ∀ (i : Nat) (t : Tm (d + 1)), ts[i]? = some t → ∃ b o lv, a = some ⟨b, o, none⟩ ∧ Four w b (o + i * 4) t.K t.N t.S lv ∧ RdL d w lv t.L

/-- That a 64-bit int holds it. -/
def I64 (n : Int) : Prop := -9223372036854775808 ≤ n ∧ n ≤ 9223372036854775807

/-- What every list of terms that is in memory is within. -/
def WfL : (d : Nat) → List (Tm d) → Prop
  | 0, _ => True
  | d + 1, ts => ts.length ≤ 9223372036854775807 ∧ ∀ t ∈ ts, I64 t.K ∧ I64 t.N ∧ t.S.size ≤ maxLen ∧ WfL d t.L

/-- How great a list of terms is: each of them, each letter. -/
def szL : (d : Nat) → List (Tm d) → Nat
  | 0, _ => 0
  | d + 1, ts => ts.length + (ts.map fun t => t.S.size + szL d t.L).sum

/-- What is left of a measure. -/
def lft (left : Int) (n : Nat) : Int := if (n : Int) ≤ left then left - n else -1

theorem tret1 {a b : Int} (h : a = b) : Ending.returned (.int .i64 a) = .returned (.int .i64 b) := by rw [h]

theorem Four.later {w w' : World} {b o : Nat} {k n : Int} {s : ByteArray} {v : Value} (h : Four w b o k n s v) (hb : Below w.heap.size w w') : Four w' b o k n s v :=
  ⟨cell_later hb h.1, cell_later hb h.2.1, cell_later hb h.2.2.1, cell_later hb h.2.2.2⟩

theorem RdL.later : ∀ {d : Nat} {w w' : World} {v : Value} {ts : List (Tm d)}, RdL d w v ts → Below w.heap.size w w' → RdL d w' v ts := by
  intro d
  induction d with
  | zero => intro w w' v ts h _; exact h
  | succ d ih =>
    intro w w' v ts h hb
    obtain ⟨a, c, rfl, h1⟩ := h
    refine ⟨a, c, rfl, fun i t ht => ?_⟩
    obtain ⟨b, o, lv, h2, h4, h5⟩ := h1 i t ht
    exact ⟨b, o, lv, h2, h4.later hb, ih h5 hb⟩

/-- The measure of the first terms of a list. -/
def szP (d : Nat) (ts : List (Tm (d + 1))) (i : Nat) : Nat := ((ts.take i).map fun t => t.S.size + szL d t.L).sum

theorem szP_succ (d : Nat) (ts : List (Tm (d + 1))) (i : Nat) (t : Tm (d + 1)) (h : ts[i]? = some t) : szP d ts (i + 1) = szP d ts i + (t.S.size + szL d t.L) := by
  have hl := (List.getElem?_eq_some_iff.1 h).1
  have he := (List.getElem?_eq_some_iff.1 h).2
  unfold szP
  rw [List.take_succ_eq_append_getElem hl, he]
  simp

theorem szP_le (d : Nat) (ts : List (Tm (d + 1))) (i : Nat) : szP d ts i ≤ (ts.map fun t => t.S.size + szL d t.L).sum := by
  unfold szP
  conv => rhs; rw [← List.take_append_drop i ts]
  rw [List.map_append, List.sum_append]
  omega

theorem szP_all (d : Nat) (ts : List (Tm (d + 1))) : ts.length + szP d ts ts.length = szL (d + 1) ts := by
  unfold szP
  rw [List.take_length]
  rfl

end Go.Proofs.YtfachfimdenapaaDoor

/- The law's own deep copy of terms: a tree in new memory, no block of which is met twice. -/
namespace Go.Proofs.YtfachfimdenapaaDoor
open Go.RowKit

/-- The blocks are all unlike, and none is older than B. -/
def Fresh (B : Nat) (w : World) (fp : List Nat) : Prop := fp.Nodup ∧ ∀ g ∈ fp, B ≤ g ∧ g < w.heap.size

theorem bcell {W w1 : World} (hb : Below W.heap.size W w1) : (∀ b o, b < W.heap.size → w1.cell? ⟨b, o, none⟩ = W.cell? ⟨b, o, none⟩) ∧ (∀ b o, b < W.heap.size → w1.frozen? ⟨b, o, none⟩ = W.frozen? ⟨b, o, none⟩) :=
  ⟨fun b o h => hb.cell (p := ⟨b, o, none⟩) h, fun b o h => hb.frozen (p := ⟨b, o, none⟩) h⟩

/-- Four cells of a row written anew. -/
def put4 (cur : Array Value) (o : Nat) (a b c d : Value) : Array Value := (((cur.setIfInBounds o a).setIfInBounds (o + 1) b).setIfInBounds (o + 2) c).setIfInBounds (o + 3) d

theorem put4_size (cur : Array Value) (o : Nat) (a b c d : Value) : (put4 cur o a b c d).size = cur.size := by simp [put4]
theorem put4_other (cur : Array Value) (o : Nat) (a b c d : Value) (j : Nat) (h : j < o ∨ o + 3 < j) : (put4 cur o a b c d)[j]? = cur[j]? := by
  unfold put4
  rw [Array.getElem?_setIfInBounds_ne (by omega), Array.getElem?_setIfInBounds_ne (by omega), Array.getElem?_setIfInBounds_ne (by omega), Array.getElem?_setIfInBounds_ne (by omega)]
theorem put4_at (cur : Array Value) (o : Nat) (a b c d : Value) (h : o + 3 < cur.size) : (put4 cur o a b c d)[o]? = some a ∧ (put4 cur o a b c d)[o + 1]? = some b ∧ (put4 cur o a b c d)[o + 2]? = some c ∧ (put4 cur o a b c d)[o + 3]? = some d := by
  unfold put4
  refine ⟨?_, ?_, ?_, ?_⟩
  · rw [Array.getElem?_setIfInBounds_ne (by omega), Array.getElem?_setIfInBounds_ne (by omega), Array.getElem?_setIfInBounds_ne (by omega), Array.getElem?_setIfInBounds_self]; simp; omega
  · rw [Array.getElem?_setIfInBounds_ne (by omega), Array.getElem?_setIfInBounds_ne (by omega), Array.getElem?_setIfInBounds_self]; simp; omega
  · rw [Array.getElem?_setIfInBounds_ne (by omega), Array.getElem?_setIfInBounds_self]; simp; omega
  · rw [Array.getElem?_setIfInBounds_self]; simp; omega

theorem stores4 (w : World) (g o : Nat) (cur : Array Value) (T : TypeId) (hh : w.heap[g]? = some (.cells cur T (0, 0))) (a b c d : Value) :
    ((((w.setCell ⟨g, o, none⟩ a).setCell ⟨g, o + 1, none⟩ b).setCell ⟨g, o + 2, none⟩ c).setCell ⟨g, o + 3, none⟩ d).heap[g]? = some (.cells (put4 cur o a b c d) T (0, 0)) ∧
    (∀ j, j ≠ g → ((((w.setCell ⟨g, o, none⟩ a).setCell ⟨g, o + 1, none⟩ b).setCell ⟨g, o + 2, none⟩ c).setCell ⟨g, o + 3, none⟩ d).heap[j]? = w.heap[j]?) := by
  constructor
  · exact heap_setCell_same _ g _ _ _ _ (heap_setCell_same _ g _ _ _ _ (heap_setCell_same _ g _ _ _ _ (heap_setCell_same w g _ _ _ _ hh)))
  · intro j hj
    rw [heap_setCell_other _ _ _ _ (by simp; omega), heap_setCell_other _ _ _ _ (by simp; omega), heap_setCell_other _ _ _ _ (by simp; omega), heap_setCell_other _ _ _ _ (by simp; omega)]

theorem stores4_below (w : World) (g o : Nat) (a b c d : Value) : Below g w ((((w.setCell ⟨g, o, none⟩ a).setCell ⟨g, o + 1, none⟩ b).setCell ⟨g, o + 2, none⟩ c).setCell ⟨g, o + 3, none⟩ d) := by
  have h1 := (Below.refl g w).setCell (p := ⟨g, o, none⟩) (Nat.le_refl g) a
  have h2 := h1.setCell (p := ⟨g, o + 1, none⟩) (Nat.le_refl g) b
  have h3 := h2.setCell (p := ⟨g, o + 2, none⟩) (Nat.le_refl g) c
  exact h3.setCell (p := ⟨g, o + 3, none⟩) (Nat.le_refl g) d
theorem stores4_size (w : World) (g o : Nat) (a b c d : Value) : ((((w.setCell ⟨g, o, none⟩ a).setCell ⟨g, o + 1, none⟩ b).setCell ⟨g, o + 2, none⟩ c).setCell ⟨g, o + 3, none⟩ d).heap.size = w.heap.size := by simp

end Go.Proofs.YtfachfimdenapaaDoor

/- Lists of structs of whatever kind, by the cells of their elements: as they are read, and as they lie in memory of one's own. -/
namespace Go.Proofs.YtfachfimdenapaaDoor
open Go.RowKit
set_option linter.unusedVariables false

/-- A value that is a slice of what xs tell, k cells each; R says what the cells of one tell. -/
def RowOf {α : Type} (k : Nat) (R : World → List Value → α → Prop) (w : World) (v : Value) (xs : List α) : Prop :=
  ∃ a c, v = .slice a xs.length c ∧ ∀ (i : Nat) (x : α), xs[i]? = some x → ∃ b o vs, a = some ⟨b, o, none⟩ ∧ vs.length = k ∧ (∀ (j : Nat) (u : Value), vs[j]? = some u → w.cell? ⟨b, o + i * k + j, none⟩ = some u) ∧ R w vs x

/-- What is told of a value stays told as long as what was there lies as it lay. -/
def Lasts {α : Type} (R : World → List Value → α → Prop) : Prop := ∀ w w' vs x, R w vs x → Below w.heap.size w w' → R w' vs x

theorem RowOf.later {α : Type} {k : Nat} {R : World → List Value → α → Prop} (hR : Lasts R) {w w' : World} {v : Value} {xs : List α} (h : RowOf k R w v xs) (hb : Below w.heap.size w w') : RowOf k R w' v xs := by
  obtain ⟨a, c, rfl, h1⟩ := h
  refine ⟨a, c, rfl, fun i x hx => ?_⟩
  obtain ⟨b, o, vs, h2, h3, h4, h5⟩ := h1 i x hx
  exact ⟨b, o, vs, h2, h3, fun j u hu => cell_later hb (h4 j u hu), hR _ _ _ _ h5 hb⟩

theorem RowOf.slice {α : Type} {k : Nat} {R : World → List Value → α → Prop} {w : World} {v : Value} {xs : List α} (h : RowOf k R w v xs) : ∃ a c, v = .slice a xs.length c := by
  obtain ⟨a, c, e, _⟩ := h
  exact ⟨a, c, e⟩

def WfRow {α : Type} (P : α → Prop) (xs : List α) : Prop := xs.length ≤ 9223372036854775807 ∧ ∀ x ∈ xs, P x

def sumP {α : Type} (f : α → Nat) (xs : List α) (i : Nat) : Nat := ((xs.take i).map f).sum
def szRow {α : Type} (f : α → Nat) (xs : List α) : Nat := xs.length + (xs.map f).sum

theorem sumP_succ {α : Type} (f : α → Nat) (xs : List α) (i : Nat) (x : α) (h : xs[i]? = some x) : sumP f xs (i + 1) = sumP f xs i + f x := by
  have hl := (List.getElem?_eq_some_iff.1 h).1
  have he := (List.getElem?_eq_some_iff.1 h).2
  unfold sumP
  rw [List.take_succ_eq_append_getElem hl, he]
  simp
theorem sumP_le {α : Type} (f : α → Nat) (xs : List α) (i : Nat) : sumP f xs i ≤ (xs.map f).sum := by
  unfold sumP
  conv => rhs; rw [← List.take_append_drop i xs]
  rw [List.map_append, List.sum_append]
  omega
theorem sumP_all {α : Type} (f : α → Nat) (xs : List α) : xs.length + sumP f xs xs.length = szRow f xs := by
  unfold sumP szRow
  rw [List.take_length]
theorem szRow_mem {α : Type} {f : α → Nat} {xs : List α} {i : Nat} {x : α} (h : xs[i]? = some x) : f x ≤ szRow f xs := by
  have h1 := sumP_succ f xs i x h
  have h2 := sumP_le f xs (i + 1)
  unfold szRow
  omega

/-- Cells of a row written anew, one after the other. -/
def putL (cur : Array Value) (o : Nat) : List Value → Array Value
  | [] => cur
  | v :: vs => putL (cur.setIfInBounds o v) (o + 1) vs
def setL (w : World) (g o : Nat) : List Value → World
  | [] => w
  | v :: vs => setL (w.setCell ⟨g, o, none⟩ v) g (o + 1) vs

theorem putL_size : ∀ (vs : List Value) (cur : Array Value) (o : Nat), (putL cur o vs).size = cur.size := by
  intro vs
  induction vs with
  | nil => intro cur o; rfl
  | cons v vs ih => intro cur o; rw [putL, ih]; simp
theorem putL_other : ∀ (vs : List Value) (cur : Array Value) (o j : Nat), j < o ∨ o + vs.length ≤ j → (putL cur o vs)[j]? = cur[j]? := by
  intro vs
  induction vs with
  | nil => intro cur o j _; rfl
  | cons v vs ih => intro cur o j h; simp only [List.length_cons] at h; rw [putL, ih _ _ _ (by omega), Array.getElem?_setIfInBounds_ne (by omega)]
theorem putL_at : ∀ (vs : List Value) (cur : Array Value) (o i : Nat) (u : Value), o + vs.length ≤ cur.size → vs[i]? = some u → (putL cur o vs)[o + i]? = some u := by
  intro vs
  induction vs with
  | nil => intro cur o i u _ h; simp at h
  | cons v vs ih =>
    intro cur o i u hs h
    simp only [List.length_cons] at hs
    rw [putL]
    cases i with
    | zero =>
      simp only [List.getElem?_cons_zero, Option.some.injEq] at h
      rw [putL_other _ _ _ _ (by omega), Nat.add_zero, Array.getElem?_setIfInBounds_self, if_pos (by omega), h]
    | succ i =>
      simp only [List.getElem?_cons_succ] at h
      have := ih (cur.setIfInBounds o v) (o + 1) i u (by simp; omega) h
      rw [show o + (i + 1) = o + 1 + i by omega]
      exact this
theorem setL_row : ∀ (vs : List Value) (w : World) (g o : Nat) (cur : Array Value) (T : TypeId), w.heap[g]? = some (.cells cur T (0, 0)) → (setL w g o vs).heap[g]? = some (.cells (putL cur o vs) T (0, 0)) := by
  intro vs
  induction vs with
  | nil => intro w g o cur T h; exact h
  | cons v vs ih => intro w g o cur T h; exact ih _ _ _ _ _ (heap_setCell_same w g _ _ _ _ h)
theorem setL_other : ∀ (vs : List Value) (w : World) (g o j : Nat), j ≠ g → (setL w g o vs).heap[j]? = w.heap[j]? := by
  intro vs
  induction vs with
  | nil => intro w g o j _; rfl
  | cons v vs ih => intro w g o j h; rw [setL, ih _ _ _ _ h, heap_setCell_other _ _ _ _ (by simp; omega)]
theorem setL_size : ∀ (vs : List Value) (w : World) (g o : Nat), (setL w g o vs).heap.size = w.heap.size := by
  intro vs
  induction vs with
  | nil => intro w g o; rfl
  | cons v vs ih => intro w g o; rw [setL, ih]; simp
theorem setL_below : ∀ (vs : List Value) (w : World) (g o B : Nat), B ≤ g → Below B w (setL w g o vs) := by
  intro vs
  induction vs with
  | nil => intro w g o B _; exact Below.refl _ _
  | cons v vs ih => intro w g o B h; exact ((Below.refl B w).setCell (p := ⟨g, o, none⟩) h v).trans (ih _ _ _ _ h)

/-- The same in blocks of one's own. -/
def OwnRow {α : Type} (k : Nat) (T : TypeId) (O : World → List Value → α → List Nat → Prop) (w : World) (v : Value) (xs : List α) (fp : List Nat) : Prop :=
  (xs = [] ∧ fp = [] ∧ ∃ a c, v = .slice a 0 c) ∨
    ∃ (g c : Nat) (cur : Array Value) (fps : List (List Nat)), v = .slice (some ⟨g, 0, none⟩) xs.length c ∧ w.heap[g]? = some (.cells cur T (0, 0)) ∧ (fps.length = xs.length ∧ xs.length ≤ c) ∧ fp = g :: fps.flatten ∧
      ∀ (i : Nat) (x : α), xs[i]? = some x → ∃ vs f, fps[i]? = some f ∧ vs.length = k ∧ (∀ (j : Nat) (u : Value), vs[j]? = some u → cur[i * k + j]? = some u) ∧ O w vs x f

def LastsO {α : Type} (O : World → List Value → α → List Nat → Prop) : Prop := ∀ w w' vs x f, O w vs x f → (∀ g ∈ f, w'.heap[g]? = w.heap[g]?) → O w' vs x f
def Reads {α : Type} (O : World → List Value → α → List Nat → Prop) (R : World → List Value → α → Prop) : Prop := ∀ w vs x f, O w vs x f → R w vs x

theorem OwnRow.frame {α : Type} {k : Nat} {T : TypeId} {O : World → List Value → α → List Nat → Prop} (hO : LastsO O) {w w' : World} {v : Value} {xs : List α} {fp : List Nat} (h : OwnRow k T O w v xs fp) (hh : ∀ g ∈ fp, w'.heap[g]? = w.heap[g]?) : OwnRow k T O w' v xs fp := by
  rcases h with h | ⟨g, c, cur, fps, h1, h2, h3, rfl, h4⟩
  · exact .inl h
  · refine .inr ⟨g, c, cur, fps, h1, by rw [hh g (List.mem_cons_self ..)]; exact h2, h3, rfl, fun i x hx => ?_⟩
    obtain ⟨vs, f, e1, e2, e3, e4⟩ := h4 i x hx
    exact ⟨vs, f, e1, e2, e3, hO _ _ _ _ _ e4 fun j hj => hh j (List.mem_cons_of_mem _ (List.mem_flatten.2 ⟨f, List.mem_of_getElem? e1, hj⟩))⟩

theorem OwnRow.rd {α : Type} {k : Nat} {T : TypeId} {O : World → List Value → α → List Nat → Prop} {R : World → List Value → α → Prop} (hO : Reads O R) {w : World} {v : Value} {xs : List α} {fp : List Nat} (h : OwnRow k T O w v xs fp) : RowOf k R w v xs := by
  rcases h with ⟨rfl, _, a, c, rfl⟩ | ⟨g, c, cur, fps, rfl, h2, h3, rfl, h4⟩
  · exact ⟨a, c, rfl, fun i x hx => by simp at hx⟩
  · refine ⟨_, c, rfl, fun i x hx => ?_⟩
    obtain ⟨vs, f, e1, e2, e3, e4⟩ := h4 i x hx
    refine ⟨g, 0, vs, rfl, e2, fun j u hu => ?_, hO _ _ _ _ e4⟩
    rw [Nat.zero_add, cell_of_row w _ _ _ _ _ h2]
    exact e3 j u hu

/-- The first n of a list lie copied in the row at B. -/
def DoneRow {α : Type} (k : Nat) (O : World → List Value → α → List Nat → Prop) (xs : List α) (n : Nat) (w : World) (cur : Array Value) (fps : List (List Nat)) : Prop :=
  ∀ (i : Nat) (x : α), i < n → xs[i]? = some x → ∃ vs f, fps[i]? = some f ∧ vs.length = k ∧ (∀ (j : Nat) (u : Value), vs[j]? = some u → cur[i * k + j]? = some u) ∧ O w vs x f

theorem row_step {α : Type} {k : Nat} {T : TypeId} {O : World → List Value → α → List Nat → Prop} (hO : LastsO O) {xs : List α} {B len n : Nat} {w wr w2 : World} {cur : Array Value} {fps : List (List Nat)} {x : α} {vs : List Value} {fp : List Nat}
    (hk : n < len) (hcs : cur.size = len * k) (hfl : fps.length = n) (hnd : fps.flatten.Nodup) (hfr : ∀ g ∈ fps.flatten, B < g ∧ g < wr.heap.size) (hwz : B < wr.heap.size) (hb : Below B w wr) (hb2 : Below wr.heap.size wr w2)
    (hdone : DoneRow k O xs n wr cur fps) (ht : xs[n]? = some x) (hvs : vs.length = k) (hown : O w2 vs x fp) (hfr2 : Fresh wr.heap.size w2 fp) (hrow : w2.heap[B]? = some (.cells cur T (0, 0))) :
    (setL w2 B (n * k) vs).heap[B]? = some (.cells (putL cur (n * k) vs) T (0, 0)) ∧ (putL cur (n * k) vs).size = len * k ∧ (fps ++ [fp]).length = n + 1 ∧ (fps ++ [fp]).flatten.Nodup ∧ (∀ g ∈ (fps ++ [fp]).flatten, B < g ∧ g < (setL w2 B (n * k) vs).heap.size) ∧ Below B w (setL w2 B (n * k) vs) ∧
      DoneRow k O xs (n + 1) (setL w2 B (n * k) vs) (putL cur (n * k) vs) (fps ++ [fp]) := by
  have hmem : ∀ g ∈ fps.flatten, g < wr.heap.size := fun g hg => (hfr g hg).2
  have hroom : n * k + vs.length ≤ cur.size := by
    have h1 : (n + 1) * k ≤ len * k := Nat.mul_le_mul_right k hk
    rw [Nat.add_mul, Nat.one_mul] at h1
    omega
  refine ⟨setL_row _ _ _ _ _ _ hrow, by rw [putL_size, hcs], by simp [hfl], ?_, ?_, (hb.trans (hb2.mono (by omega))).trans (setL_below _ _ _ _ _ (Nat.le_refl _)), ?_⟩
  · rw [List.flatten_append, List.flatten_singleton, List.nodup_append]
    exact ⟨hnd, hfr2.1, fun a ha b hb e => by have := hmem a ha; have := (hfr2.2 b hb).1; omega⟩
  · intro g hg
    rw [List.flatten_append, List.flatten_singleton, List.mem_append] at hg
    rw [setL_size]
    rcases hg with hg | hg
    · have := hfr g hg; have := hb2.size; omega
    · have := hfr2.2 g hg; omega
  · intro i u hi hu
    by_cases hik : i < n
    · obtain ⟨vs', f, e1, e2, e3, e4⟩ := hdone i u hik hu
      refine ⟨vs', f, by rw [List.getElem?_append_left (by omega)]; exact e1, e2, fun j y hy => ?_, hO _ _ _ _ _ e4 fun g hg => ?_⟩
      · have hj := (List.getElem?_eq_some_iff.1 hy).1
        have h1 : (i + 1) * k ≤ n * k := Nat.mul_le_mul_right k hik
        rw [Nat.add_mul, Nat.one_mul] at h1
        rw [putL_other _ _ _ _ (by omega)]
        exact e3 j y hy
      · have hgf : g ∈ fps.flatten := List.mem_flatten.2 ⟨f, List.mem_of_getElem? e1, hg⟩
        have := hfr g hgf
        rw [setL_other _ _ _ _ _ (by omega), hb2.block g (by omega)]
    · obtain rfl : i = n := by omega
      rw [ht] at hu
      obtain rfl := Option.some.inj hu
      refine ⟨vs, fp, by rw [List.getElem?_append_right (by omega), hfl]; simp, hvs, fun j y hy => putL_at _ _ _ _ _ hroom hy, hO _ _ _ _ _ hown fun g hg => ?_⟩
      have := (hfr2.2 g hg).1
      exact setL_other _ _ _ _ _ (by omega)

theorem row_done {α : Type} {k : Nat} {T : TypeId} {O : World → List Value → α → List Nat → Prop} {xs : List α} {B len : Nat} {w wr : World} {cur : Array Value} {fps : List (List Nat)} (hl : xs.length = len) (hfl : fps.length = len) (hnd : fps.flatten.Nodup) (hfr : ∀ g ∈ fps.flatten, B < g ∧ g < wr.heap.size) (hwz : B < wr.heap.size) (hrow : wr.heap[B]? = some (.cells cur T (0, 0))) (hd : DoneRow k O xs len wr cur fps) :
    OwnRow k T O wr (.slice (some ⟨B, 0, none⟩) len len) xs (B :: fps.flatten) ∧ Fresh B wr (B :: fps.flatten) := by
  refine ⟨.inr ⟨B, len, cur, fps, by rw [hl], hrow, ⟨by rw [hfl, hl], by omega⟩, rfl, fun i x hx => hd i x (by have := (List.getElem?_eq_some_iff.1 hx).1; omega) hx⟩, List.nodup_cons.2 ⟨fun hg => by have := (hfr _ hg).1; omega, hnd⟩, fun g hg => ?_⟩
  rcases List.mem_cons.1 hg with rfl | hg
  · omega
  · have := hfr g hg; omega

theorem lt_row {w : World} {g : Nat} {o : Obj} (h : w.heap[g]? = some o) : g < w.heap.size := Nat.lt_of_not_le fun hn => by rw [Array.getElem?_eq_none hn] at h; cases h

end Go.Proofs.YtfachfimdenapaaDoor

/- The contracts of the law's own measure, copy and comparison, of one and of a list. -/
namespace Go.Proofs.YtfachfimdenapaaDoor
open Go.RowKit

def SzEl {α : Type} (F : Nat) (R : World → List Value → α → Prop) (P : α → Prop) (f : α → Nat) : Prop := ∀ (vs : List Value) (x : α) (left : Int) (w : World), R w vs x → P x → 0 ≤ left → left ≤ 1048576 →
  Calls Tryd.prog F #[.agg vs.toArray, .int .i64 left] w fun e w' => e = .returned (.int .i64 (lft left (f x))) ∧ Below w.heap.size w w'
def SzLs {α : Type} (F k : Nat) (R : World → List Value → α → Prop) (P : α → Prop) (f : α → Nat) : Prop := ∀ (v : Value) (xs : List α) (left : Int) (w : World), RowOf k R w v xs → WfRow P xs → 0 ≤ left → left ≤ 1048576 →
  Calls Tryd.prog F #[v, .int .i64 left] w fun e w' => e = .returned (.int .i64 (lft left (szRow f xs))) ∧ Below w.heap.size w w'
def ToEl {α : Type} (F : Nat) (R : World → List Value → α → Prop) (O : World → List Value → α → List Nat → Prop) (P : α → Prop) (f : α → Nat) : Prop := ∀ (vs : List Value) (x : α) (w : World), R w vs x → P x → f x ≤ 1048576 →
  Calls Tryd.prog F #[.agg vs.toArray] w fun e w' => ∃ vs' fp, e = .returned (.agg vs'.toArray) ∧ O w' vs' x fp ∧ Fresh w.heap.size w' fp ∧ Below w.heap.size w w'
def ToLs {α : Type} (F k : Nat) (T : TypeId) (R : World → List Value → α → Prop) (O : World → List Value → α → List Nat → Prop) (P : α → Prop) (f : α → Nat) : Prop := ∀ (v : Value) (xs : List α) (w : World), RowOf k R w v xs → WfRow P xs → szRow f xs ≤ 1048576 →
  Calls Tryd.prog F #[v] w fun e w' => ∃ a l c fp, e = .returned (.slice a l c) ∧ OwnRow k T O w' (.slice a l c) xs fp ∧ Fresh w.heap.size w' fp ∧ Below w.heap.size w w'
def EqEl {α : Type} (F : Nat) (R : World → List Value → α → Prop) (P : α → Prop) : Prop := ∀ (vs1 vs2 : List Value) (x : α) (w : World), R w vs1 x → R w vs2 x → P x →
  Calls Tryd.prog F #[.agg vs1.toArray, .agg vs2.toArray] w fun e w' => e = .returned (.bool true) ∧ Below w.heap.size w w'
def EqLs {α : Type} (F k : Nat) (R : World → List Value → α → Prop) (P : α → Prop) : Prop := ∀ (v1 v2 : Value) (xs : List α) (w : World), RowOf k R w v1 xs → RowOf k R w v2 xs → WfRow P xs →
  Calls Tryd.prog F #[v1, v2] w fun e w' => e = .returned (.bool true) ∧ Below w.heap.size w w'

end Go.Proofs.YtfachfimdenapaaDoor

/- The law's own comparison of terms: two that read as one are alike. -/
namespace Go.Proofs.YtfachfimdenapaaDoor
open Go.RowKit

theorem RdL.shape {d : Nat} {w : World} {v : Value} {ts : List (Tm d)} (h : RdL d w v ts) : ∃ a l c, v = .slice a l c := by
  cases d with
  | zero => obtain ⟨a, c, h⟩ := h; exact ⟨a, _, c, h⟩
  | succ d => obtain ⟨a, c, h, _⟩ := h; exact ⟨a, _, c, h⟩

end Go.Proofs.YtfachfimdenapaaDoor

/- What the model's comparison of two terms comes to: whether they are one. -/
namespace Go.Proofs.YtfachfimdenapaaDoor
open Go.RowKit
set_option linter.unusedVariables false

/-- The contract of the comparison, at terms of d storeys below. -/
def Sm (f d : Nat) : Prop := ∀ (k n : Int) (s : ByteArray) (l : Value) (ts : List (Tm d)) (k' n' : Int) (s' : ByteArray) (l' : Value) (ts' : List (Tm d)) (w : World), RdL d w l ts → RdL d w l' ts' → WfL d ts → WfL d ts' →
  Calls Tryd.prog f #[.agg #[.int .i64 k, .int .i64 n, .string s, l], .agg #[.int .i64 k', .int .i64 n', .string s', l']] w fun e w' => ∃ b : Bool, e = .returned (.bool b) ∧ (b = true ↔ k = k' ∧ n = n' ∧ s = s' ∧ ts = ts') ∧ Below w.heap.size w w'

theorem toList_inj {x y : ByteArray} (h : x.toList = y.toList) : x = y := by
  rw [ByteArray.toList_eq, ByteArray.toList_eq] at h
  exact ByteArray.ext (Array.toList_inj.mp h)

theorem RdL.len {d : Nat} {w : World} {v : Value} {ts : List (Tm d)} (h : RdL d w v ts) : ∃ a c, v = .slice a ts.length c := by
  cases d with
  | zero =>
    obtain ⟨a, c, h⟩ := h
    have : ts = [] := by
      cases ts with
      | nil => rfl
      | cons t _ => exact Empty.elim t
    exact ⟨a, c, by rw [h, this]; rfl⟩
  | succ d => obtain ⟨a, c, h, _⟩ := h; exact ⟨a, c, h⟩

theorem WfL.len {d : Nat} {ts : List (Tm d)} (h : WfL d ts) : ts.length ≤ 9223372036854775807 := by
  cases d with
  | zero =>
    cases ts with
    | nil => simp
    | cons t _ => exact Empty.elim t
  | succ d => exact h.1

theorem tm_ext {d : Nat} {t t' : Tm (d + 1)} (h1 : t.K = t'.K) (h2 : t.N = t'.N) (h3 : t.S = t'.S) (h4 : t.L = t'.L) : t = t' := by
  obtain ⟨a, b, c, e⟩ := t
  obtain ⟨a', b', c', e'⟩ := t'
  simp only [Tm.K, Tm.N, Tm.S, Tm.L] at h1 h2 h3 h4
  subst h1; subst h2; subst h3; subst h4
  rfl

theorem heap_two (w : World) (o1 o2 : Obj) : ((w.alloc o1).alloc o2).heap[w.heap.size]? = some o1 ∧ ((w.alloc o1).alloc o2).heap[w.heap.size + 1]? = some o2 := by
  constructor
  · rw [Below.heap_alloc _ _ _ (by simp)]; exact heap_alloc_new w o1
  · have := heap_alloc_new (w.alloc o1) o2
    simpa using this

end Go.Proofs.YtfachfimdenapaaDoor

/- How many terms there are, how deep they are, and that the model's two functions tell it. -/
namespace Go.Proofs.YtfachfimdenapaaDoor
open Go.RowKit
set_option linter.unusedVariables false

/-- How many terms are in a list, all storeys. -/
def cntL : (d : Nat) → List (Tm d) → Nat
  | 0, _ => 0
  | d + 1, ts => (ts.map fun t => 1 + cntL d t.L).sum

/-- How deep the deepest of a list is. -/
def depL : (d : Nat) → List (Tm d) → Nat
  | 0, _ => 0
  | d + 1, ts => (ts.map fun t => 1 + depL d t.L).foldl max 0

def cntP (d : Nat) (ts : List (Tm (d + 1))) (i : Nat) : Nat := ((ts.take i).map fun t => 1 + cntL d t.L).sum
def depP (d : Nat) (ts : List (Tm (d + 1))) (i : Nat) : Nat := ((ts.take i).map fun t => 1 + depL d t.L).foldl max 0

theorem cntP_succ (d : Nat) (ts : List (Tm (d + 1))) (i : Nat) (t : Tm (d + 1)) (h : ts[i]? = some t) : cntP d ts (i + 1) = cntP d ts i + (1 + cntL d t.L) := by
  have hl := (List.getElem?_eq_some_iff.1 h).1
  have he := (List.getElem?_eq_some_iff.1 h).2
  unfold cntP
  rw [List.take_succ_eq_append_getElem hl, he]
  simp
theorem depP_succ (d : Nat) (ts : List (Tm (d + 1))) (i : Nat) (t : Tm (d + 1)) (h : ts[i]? = some t) : depP d ts (i + 1) = max (depP d ts i) (1 + depL d t.L) := by
  have hl := (List.getElem?_eq_some_iff.1 h).1
  have he := (List.getElem?_eq_some_iff.1 h).2
  unfold depP
  rw [List.take_succ_eq_append_getElem hl, he]
  simp
theorem cntP_all (d : Nat) (ts : List (Tm (d + 1))) (i : Nat) (h : ts.length ≤ i) : cntP d ts i = cntL (d + 1) ts := by
  unfold cntP; rw [List.take_of_length_le h]; rfl
theorem depP_all (d : Nat) (ts : List (Tm (d + 1))) (i : Nat) (h : ts.length ≤ i) : depP d ts i = depL (d + 1) ts := by
  unfold depP; rw [List.take_of_length_le h]; rfl
theorem cntP_le (d : Nat) (ts : List (Tm (d + 1))) (i : Nat) : cntP d ts i ≤ cntL (d + 1) ts := by
  show _ ≤ (ts.map fun t => 1 + cntL d t.L).sum
  unfold cntP
  conv => rhs; rw [← List.take_append_drop i ts]
  rw [List.map_append, List.sum_append]
  omega

theorem cntL_szL : ∀ (d : Nat) (ts : List (Tm d)), cntL d ts ≤ szL d ts := by
  intro d
  induction d with
  | zero => intro ts; exact Nat.le_refl _
  | succ d ih =>
    intro ts
    show (ts.map fun t => 1 + cntL d t.L).sum ≤ ts.length + (ts.map fun t => t.S.size + szL d t.L).sum
    induction ts with
    | nil => simp
    | cons t r ih2 =>
      have := ih t.L
      simp only [List.map_cons, List.sum_cons, List.length_cons]
      omega

theorem foldl_max_ge (l : List Nat) : ∀ a, a ≤ l.foldl max a ∧ ∀ x ∈ l, x ≤ l.foldl max a := by
  induction l with
  | nil => intro a; exact ⟨Nat.le_refl _, fun x hx => by cases hx⟩
  | cons b r ih =>
    intro a
    have h := ih (max a b)
    refine ⟨by simp only [List.foldl_cons]; omega, fun x hx => ?_⟩
    rcases List.mem_cons.1 hx with rfl | hx
    · simp only [List.foldl_cons]; omega
    · simp only [List.foldl_cons]; exact h.2 x hx
theorem foldl_max_le (l : List Nat) : ∀ (a m : Nat), a ≤ m → (∀ x ∈ l, x ≤ m) → l.foldl max a ≤ m := by
  induction l with
  | nil => intro a m h _; exact h
  | cons b r ih =>
    intro a m h hx
    exact ih (max a b) m (by have := hx b (List.mem_cons_self ..); omega) fun x hx' => hx x (List.mem_cons_of_mem _ hx')

theorem depL_cntL : ∀ (d : Nat) (ts : List (Tm d)), depL d ts ≤ cntL d ts := by
  intro d
  induction d with
  | zero => intro ts; exact Nat.le_refl _
  | succ d ih =>
    intro ts
    refine foldl_max_le _ 0 _ (Nat.zero_le _) fun x hx => ?_
    obtain ⟨t, ht, rfl⟩ := List.mem_map.1 hx
    have h1 := ih t.L
    have h2 : ∀ (l : List (Tm (d + 1))), t ∈ l → 1 + cntL d t.L ≤ (l.map fun t => 1 + cntL d t.L).sum := by
      intro l hl
      induction l with
      | nil => cases hl
      | cons b r ih2 =>
        simp only [List.map_cons, List.sum_cons]
        rcases List.mem_cons.1 hl with rfl | hl
        · omega
        · have := ih2 hl; omega
    have := h2 ts ht
    show 1 + depL d t.L ≤ (ts.map fun t => 1 + cntL d t.L).sum
    omega

theorem depP_le (d : Nat) (ts : List (Tm (d + 1))) (i : Nat) : depP d ts i ≤ depL (d + 1) ts := by
  refine foldl_max_le _ 0 _ (Nat.zero_le _) fun x hx => ?_
  obtain ⟨t, ht, rfl⟩ := List.mem_map.1 hx
  exact (foldl_max_ge _ 0).2 _ (List.mem_map.2 ⟨t, List.mem_of_mem_take ht, rfl⟩)

/-- The contract of a function that tells a number of a term. -/
def Tells (f d : Nat) (g : (d : Nat) → List (Tm d) → Nat) : Prop := ∀ (k n : Int) (s : ByteArray) (l : Value) (ts : List (Tm d)) (w : World), RdL d w l ts → WfL d ts → cntL d ts ≤ 1099511627776 →
  Calls Tryd.prog f #[.agg #[.int .i64 k, .int .i64 n, .string s, l]] w fun e w' => e = .returned (.int .i64 (1 + g d ts : Nat)) ∧ Below w.heap.size w w'

theorem cnt_elem {d : Nat} {ts : List (Tm (d + 1))} {j : Nat} {t : Tm (d + 1)} (ht : ts[j]? = some t) (h : cntL (d + 1) ts ≤ 1099511627776) : cntL d t.L ≤ 1099511627776 := by
  have h1 := cntP_succ d ts j t ht
  have h2 := cntP_le d ts (j + 1)
  omega

end Go.Proofs.YtfachfimdenapaaDoor

/- When a term is right, and that the model's checks tell it. -/
namespace Go.Proofs.YtfachfimdenapaaDoor
open Go.RowKit
set_option linter.unusedVariables false

theorem iff_no {P : Prop} (h : ¬ P) : false = true ↔ P := ⟨fun e => Bool.noConfusion e, fun p => absurd p h⟩
theorem iff_yes {P : Prop} (h : P) : true = true ↔ P := ⟨fun _ => h, fun _ => rfl⟩

theorem specIn_any (x lo hi : Int) (w : World) :
    Calls Tryd.prog 49 #[.int .i64 x, .int .i64 lo, .int .i64 hi] w fun e w' => e = .returned (.bool (decide (lo ≤ x ∧ x ≤ hi))) ∧ w = w' := by
  by_cases h1 : lo ≤ x
  · by_cases h2 : x ≤ hi
    · have hd : decide (lo ≤ x ∧ x ≤ hi) = true := by simp [h1, h2]
      rw [hd]
      go_enter Tryd.func49, Tryd.ntmps49
      go_wp2
      go_ret
      exact ⟨rfl, rfl⟩
    · have hd : decide (lo ≤ x ∧ x ≤ hi) = false := by simp; omega
      rw [hd]
      go_enter Tryd.func49, Tryd.ntmps49
      go_wp2
      go_ret
      exact ⟨rfl, rfl⟩
  · have hd : decide (lo ≤ x ∧ x ≤ hi) = false := by simp; omega
    rw [hd]
    go_enter Tryd.func49, Tryd.ntmps49
    go_wp2
    go_ret
    exact ⟨rfl, rfl⟩

/-- A letter that an atom may have at place i. -/
def ChOk (i : Nat) (x : Int) : Prop := (97 ≤ x ∧ x ≤ 122) ∨ (i ≠ 0 ∧ ((48 ≤ x ∧ x ≤ 57) ∨ x = 95))

/-- An atom. -/
def AtomP (s : ByteArray) : Prop := (∀ (i : Nat) (h : i < s.size), ChOk i (s[i].toNat : Int)) ∧ 1 ≤ s.size ∧ s.size ≤ 20

set_option maxHeartbeats 1000000 in
theorem specAtomOk_any (s : ByteArray) (w : World) (hs : s.size ≤ 9223372036854775807) :
    Calls Tryd.prog 61 #[.string s] w fun e w' => ∃ b : Bool, e = .returned (.bool b) ∧ (b = true ↔ AtomP s) ∧ w = w' := by
  go_enter Tryd.func61, Tryd.ntmps61
  go_wp2_with fail
  go_loop [3] (fun i => ∃ k : Nat, k ≤ s.size ∧ i = .int .i64 k ∧ Hid (∀ (j : Nat) (h : j < s.size), j < k → ChOk j (s[j].toNat : Int))) (fun i => s.size - (intOf i).toNat)
  case atStart => exact ⟨0, Nat.zero_le _, rfl, fun j _ hj => by omega⟩
  case round =>
    obtain ⟨k, hk, rfl, HD⟩ := hrel
    by_cases hlt : k < s.size
    · have hbyte : (s[k].toNat : Int) ≤ 255 := by have := s[k].toNat_lt; omega
      obtain ⟨x, hx⟩ : ∃ x, wrap64 (s[k].toNat : Int) = x := ⟨_, rfl⟩
      have HX : Hid ((s[k].toNat : Int) = x) := by rw [← hx]; exact (IntWalk.wrap64_in _ ⟨by omega, by omega⟩).symm
      clear hbyte
      have HN : Hid (ChOk k x → ∀ (j : Nat) (h : j < s.size), j < k + 1 → ChOk j (s[j].toNat : Int)) := fun hc j hj hjk => by
        by_cases h : j < k
        · exact HD.out j hj h
        · obtain rfl : j = k := by omega
          rw [HX.out]; exact hc
      have HF : Hid (¬ ChOk k x → ¬ AtomP s) := fun hc ha => hc (by rw [← HX.out]; exact ha.1 k hlt)
      go_wp2_with fail
      clear hx
      generalize Value.int IntKind.u8 (s[k].toNat : Int) = u
      by_cases hsm : 97 ≤ x ∧ x ≤ 122
      · have hL := specIn_any x 97 122 w
        rw [show decide (97 ≤ x ∧ x ≤ 122) = true from by simp [hsm]] at hL
        have HR := HN.out (.inl hsm)
        have HRR : Hid (∀ (j : Nat) (h : j < s.size), j < k + 1 → ChOk j (s[j].toNat : Int)) := HR
        clear HR HN HF HX HD hsm
        refine hL.mono ?_
        clear hL
        rintro e w' ⟨rfl, rfl⟩
        go_wp2_with fail
        go_round
        case rel => exact ⟨k + 1, by omega, by go_num, HRR⟩
        case measure => simp [intOf]; omega
      · have hL := specIn_any x 97 122 w
        rw [show decide (97 ≤ x ∧ x ≤ 122) = false from by simp; omega] at hL
        refine hL.mono ?_
        clear hL
        rintro e w' ⟨rfl, rfl⟩
        by_cases hk0 : k = 0
        · have hb0 : ((k : Int) == 0) = true := by simp [hk0]
          have HR : Hid (¬ AtomP s) := HF.out (fun h => by rcases h with h | h; exact hsm h; exact h.1 hk0)
          clear HF HN HX HD hsm hk0
          go_wp2_with fail
          go_ret
          exact ⟨false, rfl, by simp only [Bool.false_eq_true, false_iff]; exact HR.out, rfl⟩
        · have hb0 : ((k : Int) == 0) = false := by simp [hk0]
          by_cases hdg : 48 ≤ x ∧ x ≤ 57
          · have hL := specIn_any x 48 57 w
            rw [show decide (48 ≤ x ∧ x ≤ 57) = true from by simp [hdg]] at hL
            have HRR : Hid (∀ (j : Nat) (h : j < s.size), j < k + 1 → ChOk j (s[j].toNat : Int)) := HN.out (.inr ⟨hk0, .inl hdg⟩)
            clear HN HF HX HD hsm hdg hk0
            go_wp2_with fail
            refine hL.mono ?_
            clear hL
            rintro e w' ⟨rfl, rfl⟩
            go_wp2_with fail
            go_round
            case rel => exact ⟨k + 1, by omega, by go_num, HRR⟩
            case measure => simp [intOf]; omega
          · have hL := specIn_any x 48 57 w
            rw [show decide (48 ≤ x ∧ x ≤ 57) = false from by simp; omega] at hL
            by_cases hu : x = 95
            · have hub : (x != 95) = false := by simp [hu]
              have HRR : Hid (∀ (j : Nat) (h : j < s.size), j < k + 1 → ChOk j (s[j].toNat : Int)) := HN.out (.inr ⟨hk0, .inr hu⟩)
              clear HN HF HX HD hsm hdg hk0 hu
              go_wp2_with fail
              refine hL.mono ?_
              clear hL
              rintro e w' ⟨rfl, rfl⟩
              go_wp2_with fail
              go_round
              case rel => exact ⟨k + 1, by omega, by go_num, HRR⟩
              case measure => simp [intOf]; omega
            · have hub : (x != 95) = true := by simp [hu]
              have HR : Hid (¬ AtomP s) := HF.out (fun h => by rcases h with h | ⟨_, h | h⟩; exact hsm h; exact hdg h; exact hu h)
              clear HF HN HX HD hsm hdg hk0 hu
              go_wp2_with fail
              refine hL.mono ?_
              clear hL
              rintro e w' ⟨rfl, rfl⟩
              go_wp2_with fail
              go_ret
              exact ⟨false, rfl, by simp only [Bool.false_eq_true, false_iff]; exact HR.out, rfl⟩
    · have hL := specIn_any s.size 1 20 w
      go_wp2_with fail
      refine hL.mono ?_
      clear hL
      rintro e w' ⟨rfl, rfl⟩
      have HF : Hid ((decide (1 ≤ (s.size : Int)) && decide ((s.size : Int) ≤ 20)) = true ↔ AtomP s) := by
        show _ ↔ _
        rw [Bool.and_eq_true, decide_eq_true_iff, decide_eq_true_iff]
        exact ⟨fun h => ⟨fun j hj => HD.out j hj (by omega), by omega, by omega⟩, fun h => ⟨by have := h.2.1; omega, by have := h.2.2; omega⟩⟩
      go_wp2
      go_ret
      exact ⟨_, rfl, HF.out, rfl⟩

/-- A term that is right, all but what is in it. -/
def Shape (k n : Int) (s : ByteArray) (len : Nat) : Prop :=
  (k = 1 ∧ (-1000000000000 ≤ n ∧ n ≤ 1000000000000) ∧ s.size = 0 ∧ len = 0) ∨ (k = 2 ∧ AtomP s ∧ n = 0 ∧ len = 0) ∨ (k = 3 ∧ (0 ≤ n ∧ n ≤ 1000000) ∧ s.size = 0 ∧ len = 0) ∨ (k = 4 ∧ n = 0 ∧ s.size = 0 ∧ len ≤ 20) ∨ (k = 5 ∧ n = 0 ∧ s.size = 0 ∧ len ≤ 60)

theorem shape1 (n : Int) (s : ByteArray) (len : Nat) : Shape 1 n s len ↔ (-1000000000000 ≤ n ∧ n ≤ 1000000000000) ∧ s.size = 0 ∧ len = 0 := by simp [Shape]
theorem shape2 (n : Int) (s : ByteArray) (len : Nat) : Shape 2 n s len ↔ AtomP s ∧ n = 0 ∧ len = 0 := by simp [Shape]
theorem shape3 (n : Int) (s : ByteArray) (len : Nat) : Shape 3 n s len ↔ (0 ≤ n ∧ n ≤ 1000000) ∧ s.size = 0 ∧ len = 0 := by simp [Shape]
theorem shape4 (n : Int) (s : ByteArray) (len : Nat) : Shape 4 n s len ↔ n = 0 ∧ s.size = 0 ∧ len ≤ 20 := by simp [Shape]
theorem shape5 (n : Int) (s : ByteArray) (len : Nat) : Shape 5 n s len ↔ n = 0 ∧ s.size = 0 ∧ len ≤ 60 := by simp [Shape]

theorem empty_iff (s : ByteArray) : s.toList.isEmpty = true ↔ s.size = 0 := by
  rw [ByteArray.toList_eq, List.isEmpty_iff, Array.toList_eq_nil_iff]
  exact ⟨fun h => by show s.data.size = 0; rw [h]; rfl, fun h => Array.eq_empty_of_size_eq_zero h⟩
theorem empty_no {s : ByteArray} (h : ¬ s.size = 0) : s.toList.isEmpty = false := by
  cases h' : s.toList.isEmpty with
  | false => rfl
  | true => exact absurd ((empty_iff s).1 h') h

/-- The contract of the check of a shape. -/
def ShapeC (f : Nat) : Prop := ∀ (k n : Int) (s : ByteArray) (a : Option Addr) (len c : Nat) (w : World), s.size ≤ 9223372036854775807 → len ≤ 9223372036854775807 →
  Calls Tryd.prog f #[.agg #[.int .i64 k, .int .i64 n, .string s, .slice a len c]] w fun e w' => ∃ b : Bool, e = .returned (.bool b) ∧ (b = true ↔ Shape k n s len) ∧ Below w.heap.size w w'

end Go.Proofs.YtfachfimdenapaaDoor

/- When a term is right in all its storeys, and that the model's walk over it tells it. -/
namespace Go.Proofs.YtfachfimdenapaaDoor
open Go.RowKit
set_option linter.unusedVariables false

/-- All terms of a list have their shapes, all storeys. -/
def OkL : (d : Nat) → List (Tm d) → Prop
  | 0, _ => True
  | d + 1, ts => ∀ t ∈ ts, Shape t.K t.N t.S t.L.length ∧ OkL d t.L

/-- A term that is right, no deeper than told, of no more than are left. -/
def Right (d : Nat) (k n : Int) (s : ByteArray) (ts : List (Tm d)) (deep left : Int) : Prop :=
  Shape k n s ts.length ∧ OkL d ts ∧ ((1 + depL d ts : Nat) : Int) ≤ deep ∧ ((1 + cntL d ts : Nat) : Int) ≤ left

theorem depL_le {d : Nat} {ts : List (Tm (d + 1))} {m : Nat} : depL (d + 1) ts ≤ m ↔ ∀ t ∈ ts, 1 + depL d t.L ≤ m := by
  constructor
  · intro h t ht
    have := (foldl_max_ge (ts.map fun t => 1 + depL d t.L) 0).2 _ (List.mem_map.2 ⟨t, ht, rfl⟩)
    exact Nat.le_trans this h
  · intro h
    refine foldl_max_le _ 0 m (Nat.zero_le _) fun x hx => ?_
    obtain ⟨t, ht, rfl⟩ := List.mem_map.1 hx
    exact h t ht

/-- The contract of a walk that tells how many may be left. -/
def LookC (f d : Nat) : Prop := ∀ (k n : Int) (s : ByteArray) (l : Value) (ts : List (Tm d)) (deep left : Int) (w : World), RdL d w l ts → WfL d ts → s.size ≤ 9223372036854775807 → -1000 ≤ deep → deep ≤ 1000 → -1000 ≤ left → left ≤ 1000000 →
  Calls Tryd.prog f #[.agg #[.int .i64 k, .int .i64 n, .string s, l], .int .i64 deep, .int .i64 left] w fun e w' => ∃ r : Int, e = .returned (.int .i64 r) ∧ ((Right d k n s ts deep left ∧ r = left - (1 + cntL d ts : Nat)) ∨ (¬ Right d k n s ts deep left ∧ r = -1)) ∧ Below w.heap.size w w'

theorem right_zero {k n : Int} {s : ByteArray} {ts : List (Tm 0)} {deep left : Int} (h1 : ¬ deep < 1) (h2 : ¬ left < 1) (h3 : Shape k n s ts.length) : Right 0 k n s ts deep left :=
  ⟨h3, trivial, by show ((1 + 0 : Nat) : Int) ≤ deep; omega, by show ((1 + 0 : Nat) : Int) ≤ left; omega⟩

/-- The first j terms of a list are right. -/
def RightP (d : Nat) (ts : List (Tm (d + 1))) (deep left : Int) (j : Nat) : Prop :=
  (∀ i t, i < j → ts[i]? = some t → Shape t.K t.N t.S t.L.length ∧ OkL d t.L ∧ ((1 + depL d t.L : Nat) : Int) ≤ deep - 1) ∧ ((1 + cntP d ts j : Nat) : Int) ≤ left

theorem rightP_all {d : Nat} {k n : Int} {s : ByteArray} {ts : List (Tm (d + 1))} {deep left : Int} {j : Nat} (hd : ¬ deep < 1) (h3 : Shape k n s ts.length) (hj : ts.length ≤ j) (h : RightP d ts deep left j) : Right (d + 1) k n s ts deep left := by
  refine ⟨h3, fun t ht => ?_, ?_, by have := h.2; rw [cntP_all d ts j hj] at this; exact this⟩
  · obtain ⟨i, hi, e⟩ := List.getElem_of_mem ht
    have := h.1 i t (by omega) (by rw [List.getElem?_eq_getElem hi, e])
    exact ⟨this.1, this.2.1⟩
  · have : depL (d + 1) ts ≤ (deep - 1).toNat := depL_le.2 fun t ht => by
      obtain ⟨i, hi, e⟩ := List.getElem_of_mem ht
      have := (h.1 i t (by omega) (by rw [List.getElem?_eq_getElem hi, e])).2.2
      omega
    omega

theorem right_elem {d : Nat} {k n : Int} {s : ByteArray} {ts : List (Tm (d + 1))} {deep left : Int} {j : Nat} {t : Tm (d + 1)} (ht : ts[j]? = some t) (h : Right (d + 1) k n s ts deep left) : Right d t.K t.N t.S t.L (deep - 1) (left - 1 - cntP d ts j) := by
  have hm := List.mem_of_getElem? ht
  obtain ⟨_, h2, h3, h4⟩ := h
  have h5 := h2 t hm
  have h6 : 1 + depL d t.L ≤ depL (d + 1) ts := (depL_le (m := depL (d + 1) ts)).1 (Nat.le_refl _) t hm
  have h7 := cntP_succ d ts j t ht
  have h8 := cntP_le d ts (j + 1)
  exact ⟨h5.1, h5.2, by omega, by omega⟩

theorem rightP_step {d : Nat} {ts : List (Tm (d + 1))} {deep left : Int} {j : Nat} {t : Tm (d + 1)} (ht : ts[j]? = some t) (h : RightP d ts deep left j) (hr : Right d t.K t.N t.S t.L (deep - 1) (left - 1 - cntP d ts j)) : RightP d ts deep left (j + 1) := by
  have h7 := cntP_succ d ts j t ht
  obtain ⟨r1, r2, r3, r4⟩ := hr
  refine ⟨fun i u hi hu => ?_, by omega⟩
  by_cases hij : i < j
  · exact h.1 i u hij hu
  · obtain rfl : i = j := by omega
    rw [ht] at hu
    obtain rfl := Option.some.inj hu
    exact ⟨r1, r2, r3⟩

end Go.Proofs.YtfachfimdenapaaDoor

/- A region that draws its order, whose operations only read and whose callees leave what was there: one walk. -/
namespace Go.Proofs.YtfachfimdenapaaDoor
open Go.RowKit

/-- A world behind this one. -/
structure After (w : World) where
  now : World
  bel : Below w.heap.size w now

theorem After.some (w : World) : Nonempty (After w) := ⟨⟨w, Below.refl _ _⟩⟩

theorem wp_region_after {P : Program} {id : Nat} {Q : Exit → Act → World → Prop} {a : Act} {w : World} {l : List Oper} (hm : P.follows .mixedOrders = true) (hB : Region.lexB .any l.toArray = true)
    (h : wpQuiet P l.toArray (fun w' => ∃ n : After w, w' = n.now) (fun a' => ∀ w', (∃ n : After w, w' = n.now) → Q .normal a' w') l a) : (Code.region id l.toArray true).wp P Q a w :=
  wp_region_quiet (C := fun w' => ∃ n : After w, w' = n.now) hm hB ⟨⟨_, (Below.refl _ _).drew⟩, rfl⟩ (by simpa using h)

theorem calls_after {P : Program} {f : FuncId} {args : Array Value} {w : World} {n : After w} {v : Value}
    (h : Calls P f args n.now fun e w' => e = .returned v ∧ Below n.now.heap.size n.now w') : Calls P f args n.now fun e w'' => e = .returned v ∧ ∃ m : After w, w'' = m.now :=
  h.mono fun _ w' ⟨he, hb⟩ => ⟨he, ⟨w', n.bel.trans (hb.mono n.bel.size)⟩, rfl⟩

theorem After.cell {w : World} {a : Addr} {v : Value} (h : w.cell? a = .some v) (n : After w) : n.now.cell? a = .some v := cell_later n.bel h

end Go.Proofs.YtfachfimdenapaaDoor

/- How a list of terms that came in is read: to whatever depth. -/
namespace Go.Proofs.YtfachfimdenapaaDoor
open Go.RowKit Go.ChangeShapes Go.WideShapes Go.Joins Go.Deep

theorem cells4 {w : World} {base : Nat} {a : Addr} {cs : List Value} (h : w.cells? base a 4 = some cs) :
    ∃ c0 c1 c2 c3, cs = [c0, c1, c2, c3] ∧ w.cell? (a.add 0) = some c0 ∧ w.cell? (a.add 1) = some c1 ∧ w.cell? (a.add 2) = some c2 ∧ w.cell? (a.add 3) = some c3 := by
  unfold World.cells? at h
  split at h
  · simp only [show List.range 4 = [0, 1, 2, 3] from rfl, List.mapM_cons, List.mapM_nil, Option.bind_eq_bind, Option.pure_def] at h
    obtain ⟨c0, h0, h⟩ := Option.bind_eq_some_iff.1 h
    obtain ⟨r1, h, e0⟩ := Option.bind_eq_some_iff.1 h
    obtain ⟨c1, h1, h⟩ := Option.bind_eq_some_iff.1 h
    obtain ⟨r2, h, e1⟩ := Option.bind_eq_some_iff.1 h
    obtain ⟨c2, h2, h⟩ := Option.bind_eq_some_iff.1 h
    obtain ⟨r3, h, e2⟩ := Option.bind_eq_some_iff.1 h
    obtain ⟨c3, h3, h⟩ := Option.bind_eq_some_iff.1 h
    obtain ⟨r4, h, e3⟩ := Option.bind_eq_some_iff.1 h
    cases h
    cases e3
    cases e2
    cases e1
    cases e0
    exact ⟨c0, c1, c2, c3, rfl, h0, h1, h2, h3⟩
  · cases h

theorem Tryd.cells3 : Tryd.prog.cellsOf 3 = 1 := by kernel_rfl
theorem Tryd.cells9 : Tryd.prog.cellsOf 9 = 1 := by kernel_rfl
section
variable {H : Type} {enc : TypeId × Value → H} {W : World} {base : Nat} {spare : Nat → Bool} {held : Bool}

end
end Go.Proofs.YtfachfimdenapaaDoor

/- How lists of structs that came in are read. -/
namespace Go.Proofs.YtfachfimdenapaaDoor
open Go.RowKit Go.ChangeShapes Go.WideShapes Go.Joins Go.Deep
set_option linter.unusedVariables false

theorem cells_at {w : World} {base n : Nat} {a : Addr} {cs : List Value} (h : w.cells? base a n = some cs) : cs.length = n ∧ ∀ (j : Nat) (u : Value), cs[j]? = some u → w.cell? (a.add j) = some u := by
  unfold World.cells? at h
  split at h
  · have hl := mapM_some_length h
    rw [List.length_range] at hl
    refine ⟨hl, fun j u hu => ?_⟩
    have hj : j < n := by have := (List.getElem?_eq_some_iff.1 hu).1; omega
    have := mapM_some_get h j j (by simp [hj])
    rw [this, hu]
  · cases h

section
variable {H : Type} {enc : TypeId × Value → H} {W : World} {base : Nat} {spare : Nat → Bool} {held : Bool}

set_option maxRecDepth 100000 in
theorem read_row {α : Type} {k : Nat} {TS TE : TypeId} {R : World → List Value → α → Prop} {P : α → Prop} (hu : Tryd.prog.underlying TS = some (.slice TE)) (hk : Tryd.prog.cellsOf TE = k) (hk0 : 0 < k) {m : Nat}
    (ih : ∀ n, n < m → ∀ cs x, DataW.trod enc Tryd.prog W base spare held n TE cs = some x → cs.length = k → ∃ e : α, R W cs e ∧ P e) {v : Value} {x : DataW H × List MemPlace} (h : DataW.trod enc Tryd.prog W base spare held m TS [v] = some x) : ∃ es : List α, RowOf k R W v es ∧ WfRow P es := by
  rcases DataW.trod_slice hu h with ⟨hv, _⟩ | ⟨a, len, cap, elems, rest, n, rfl, hv, _, _, hlc, hcm, hel, hx, _, _⟩
  · simp only [List.cons.injEq, and_true] at hv
    subst hv
    exact ⟨[], ⟨_, _, rfl, fun i t ht => by simp at ht⟩, by simp, fun t ht => by cases ht⟩
  · simp only [List.cons.injEq, and_true] at hv
    subst hv
    have one : ∀ i, i < len → ∃ e : α, ∃ b o vs, a = ⟨b, o, none⟩ ∧ vs.length = k ∧ (∀ (j : Nat) (u : Value), vs[j]? = some u → W.cell? ⟨b, o + i * k + j, none⟩ = some u) ∧ R W vs e ∧ P e := by
      intro i hi
      have h1 := hx i hi
      rw [List.getElem?_eq_getElem (by omega), hk] at h1
      obtain ⟨cs, hc, h2⟩ := Option.bind_eq_some_iff.1 h1
      obtain ⟨hl, hce⟩ := cells_at hc
      obtain ⟨e, hr, hp⟩ := ih n (by omega) cs _ h2 hl
      have hspot : a.spot = none := by
        have h3 := hx 0 (by omega)
        rw [List.getElem?_eq_getElem (by omega), hk] at h3
        obtain ⟨cs', hc', _⟩ := Option.bind_eq_some_iff.1 h3
        obtain ⟨hl', hce'⟩ := cells_at hc'
        have := World.cell?_spot (hce' 0 cs'[0] (List.getElem?_eq_getElem (by omega)))
        simpa [Addr.add] using this
      obtain ⟨b, o, sp⟩ := a
      simp only at hspot
      subst hspot
      refine ⟨e, b, o, cs, rfl, hl, fun j u hu => ?_, hr, hp⟩
      have := hce j u hu
      rw [Deep.add_add] at this
      simpa only [Addr.add_lit, ← Nat.add_assoc] using this
    by_cases h0 : len = 0
    · subst h0
      exact ⟨[], ⟨some a, cap, rfl, fun i t ht => by simp at ht⟩, by simp, fun t ht => by cases ht⟩
    · obtain ⟨e0, _⟩ := one 0 (by omega)
      haveI : Inhabited α := ⟨e0⟩
      obtain ⟨f, hf⟩ := choose_lt one
      refine ⟨(List.range len).map f, ⟨some a, cap, by simp, fun i t ht => ?_⟩, by simp; unfold maxLen at hcm; omega, fun t ht => ?_⟩
      · have hi : i < len := by have := (List.getElem?_eq_some_iff.1 ht).1; simpa using this
        obtain ⟨b, o, vs, e, h4, h5, h6, _⟩ := hf i hi
        have et : f i = t := by simpa [hi] using ht
        rw [et] at h6
        exact ⟨b, o, vs, by rw [e], h4, h5, h6⟩
      · obtain ⟨i, hi, rfl⟩ := List.mem_map.1 ht
        obtain ⟨b, o, vs, _, _, _, _, h1⟩ := hf i (List.mem_range.1 hi)
        exact h1

end
end Go.Proofs.YtfachfimdenapaaDoor

/- Data of the later chapters: terms as parts of structs, lists of numbers; the law's own measure, copy and comparison of them. -/
namespace Go.Proofs.YtfachfimdenapaaDoor
open Go.RowKit Go.ChangeShapes Go.WideShapes Go.Joins Go.Deep
set_option linter.unusedVariables false

theorem RowOf.sl {α : Type} {k : Nat} {R : World → List Value → α → Prop} {w : World} {v : Value} {xs : List α} (h : RowOf k R w v xs) : ∃ a l c, v = .slice a l c := by
  obtain ⟨a, c, e, _⟩ := h
  exact ⟨a, _, c, e⟩
theorem OwnRow.sl {α : Type} {k : Nat} {T : TypeId} {O : World → List Value → α → List Nat → Prop} {w : World} {v : Value} {xs : List α} {fp : List Nat} (h : OwnRow k T O w v xs fp) : ∃ a l c, v = .slice a l c := by
  rcases h with ⟨_, _, a, c, rfl⟩ | ⟨g, c, cur, fps, rfl, _⟩
  · exact ⟨_, _, _, rfl⟩
  · exact ⟨_, _, _, rfl⟩

theorem RdL.len1 {d : Nat} {w : World} {v : Value} {ts : List (Tm (d + 1))} (h : RdL (d + 1) w v ts) : ∃ a c, v = .slice a ts.length c := by
  obtain ⟨a, c, e, _⟩ := h
  exact ⟨a, c, e⟩

/-- A term as a part of something. -/
def TmR (d : Nat) (w : World) (vs : List Value) (t : Tm (d + 1)) : Prop := ∃ lv, vs = [.int .i64 t.K, .int .i64 t.N, .string t.S, lv] ∧ RdL d w lv t.L
def WfTm (d : Nat) (t : Tm (d + 1)) : Prop := I64 t.K ∧ I64 t.N ∧ t.S.size ≤ maxLen ∧ WfL d t.L
def szTm (d : Nat) (t : Tm (d + 1)) : Nat := t.S.size + szL d t.L
def ShTerm (vs : List Value) : Prop := ∃ (i0 i1 : Int) (s2 : ByteArray) (a3 : Option Addr) (l3 c3 : Nat), vs = [.int .i64 i0, .int .i64 i1, .string s2, .slice a3 l3 c3]

theorem TmR.lasts (d : Nat) : Lasts (TmR d) := by
  rintro w w' vs b ⟨lv, rfl, h⟩ hb
  exact ⟨lv, rfl, h.later hb⟩
theorem TmR.shape (d : Nat) : ∀ w vs b, TmR d w vs b → ShTerm vs := by
  rintro w vs b ⟨lv, rfl, h⟩
  obtain ⟨a, l, c, rfl⟩ := h.shape
  exact ⟨_, _, _, _, _, _, rfl⟩
/-- Numbers. -/
def InR (w : World) (vs : List Value) (n : Int) : Prop := vs = [.int .i64 n]
def InO (w : World) (vs : List Value) (n : Int) (fp : List Nat) : Prop := vs = [.int .i64 n] ∧ fp = []
theorem InR.lasts : Lasts InR := fun _ _ _ _ h _ => h
theorem InO.lasts : LastsO InO := fun _ _ _ _ _ h _ => h
theorem InO.reads : Reads InO InR := fun _ _ _ _ h => h.1
def szI (n : Int) : Nat := 0

def TellI (w : World) (v : Value) (l : List Int) : Prop := ∃ a c, v = .slice a l.length c ∧ ∀ (i : Nat) (s : Int), l[i]? = some s → ∃ b o, a = some ⟨b, o, none⟩ ∧ w.cell? ⟨b, o + i, none⟩ = some (.int .i64 s)
theorem row_tellI {w : World} {v : Value} {l : List Int} (h : RowOf 1 InR w v l) : TellI w v l := by
  obtain ⟨a, c, rfl, h1⟩ := h
  refine ⟨a, c, rfl, fun i s hs => ?_⟩
  obtain ⟨b, o, vs, h2, h3, h4, rfl⟩ := h1 i s hs
  have := h4 0 _ rfl
  rw [Nat.mul_one, Nat.add_zero] at this
  exact ⟨b, o, h2, this⟩

theorem szI_sum (xs : List Int) : szRow szI xs = xs.length := by
  unfold szRow
  have : (xs.map szI).sum = 0 := by
    induction xs with
    | nil => rfl
    | cons x xs ih => simp [szI, ih]
  omega

theorem Tryd.infoInt : (Tryd.prog.info? 3).map (fun i => (i.zero, i.size, i.bytes)) = some (some (.int .i64 0), 1, 8) := by kernel_rfl

theorem lft_neg (l : Int) (n : Nat) (h : lft l n < 0) : lft l n = -1 := by
  unfold lft at h ⊢
  by_cases q : (n : Int) ≤ l
  · rw [if_pos q] at h; omega
  · rw [if_neg q]

theorem Tryd.cellsInts : Tryd.prog.cellsOf 76 = 1 := by kernel_rfl
theorem Tryd.cells4 : Tryd.prog.cellsOf 4 = 1 := by kernel_rfl

section
variable {H : Type} {enc : TypeId × Value → H} {W : World} {base : Nat} {spare : Nat → Bool} {held : Bool}

theorem read_ints {m : Nat} {v : Value} {x : DataW H × List MemPlace} (h : DataW.trod enc Tryd.prog W base spare held m 76 [v] = some x) : ∃ l : List Int, RowOf 1 InR W v l ∧ WfRow I64 l :=
  read_row (R := InR) (P := I64) Tryd.underlying76 Tryd.cells3 (by omega) (fun n hn cs x hx hl => by
    obtain ⟨c, rfl⟩ : ∃ c, cs = [c] := by
      match cs, hl with
      | [c], _ => exact ⟨c, rfl⟩
    obtain ⟨t, e, _, ht⟩ := DataW.trod_int Tryd.underlying3 hx
    simp only [List.cons.injEq, and_true] at e
    subst e
    exact ⟨t, rfl, bounds_i64 ht⟩) h

end

end Go.Proofs.YtfachfimdenapaaDoor

/- The law's own measure, copy and comparison of lists of structs. -/
namespace Go.Proofs.YtfachfimdenapaaDoor
open Go.RowKit
set_option linter.unusedVariables false

/-- The cells of Expr. -/
def ShExpr (vs : List Value) : Prop := ∃ (i0 : Int) (i1 : Int) (s2 : ByteArray) (a3 : Option Addr) (l3 c3 : Nat) (a4 : Option Addr) (l4 c4 : Nat), vs = [.int .i64 i0, .int .i64 i1, .string s2, .slice a3 l3 c3, .slice a4 l4 c4]

end Go.Proofs.YtfachfimdenapaaDoor

/- The law's own measure, copy and comparison of lists of structs. -/
namespace Go.Proofs.YtfachfimdenapaaDoor
open Go.RowKit
set_option linter.unusedVariables false

/-- The cells of Clause. -/
def ShClause (vs : List Value) : Prop := ∃ (i0 : Int) (i1 : Int) (s2 : ByteArray) (a3 : Option Addr) (l3 c3 : Nat) (a4 : Option Addr) (l4 c4 : Nat) (i5 : Int) (i6 : Int) (s7 : ByteArray) (a8 : Option Addr) (l8 c8 : Nat) (a9 : Option Addr) (l9 c9 : Nat), vs = [.int .i64 i0, .int .i64 i1, .string s2, .slice a3 l3 c3, .slice a4 l4 c4, .int .i64 i5, .int .i64 i6, .string s7, .slice a8 l8 c8, .slice a9 l9 c9]

end Go.Proofs.YtfachfimdenapaaDoor

/- Expressions as data, to whatever depth; the law's own measure, copy and comparison of them. -/
namespace Go.Proofs.YtfachfimdenapaaDoor
open Go.RowKit
set_option linter.unusedVariables false

/-- An expression of at most d storeys. -/
def Ex : Nat → Type
  | 0 => Empty
  | d + 1 => Int × Int × ByteArray × List (Ex d) × List (Ex d × Ex d)

def Ex.K {d : Nat} (e : Ex (d + 1)) : Int := e.1
def Ex.N {d : Nat} (e : Ex (d + 1)) : Int := e.2.1
def Ex.S {d : Nat} (e : Ex (d + 1)) : ByteArray := e.2.2.1
def Ex.E {d : Nat} (e : Ex (d + 1)) : List (Ex d) := e.2.2.2.1
def Ex.C {d : Nat} (e : Ex (d + 1)) : List (Ex d × Ex d) := e.2.2.2.2
def mkX {d : Nat} (k n : Int) (s : ByteArray) (es : List (Ex d)) (cs : List (Ex d × Ex d)) : Ex (d + 1) := (k, n, s, es, cs)

/-- Two by two. -/
def ClR {α : Type} (R : World → List Value → α → Prop) (w : World) (vs : List Value) (c : α × α) : Prop := ∃ p x, vs = p ++ x ∧ R w p c.1 ∧ R w x c.2
def ClO {α : Type} (O : World → List Value → α → List Nat → Prop) (w : World) (vs : List Value) (c : α × α) (fp : List Nat) : Prop := ∃ p x f g, vs = p ++ x ∧ fp = f ++ g ∧ O w p c.1 f ∧ O w x c.2 g
def ClP {α : Type} (P : α → Prop) (c : α × α) : Prop := P c.1 ∧ P c.2
def ClF {α : Type} (f : α → Nat) (c : α × α) : Nat := f c.1 + f c.2

/-- Five cells that tell an expression. -/
def ExR : (d : Nat) → World → List Value → Ex d → Prop
  | 0, _, _, _ => False
  | d + 1, w, vs, e => ∃ ve vc, vs = [.int .i64 e.K, .int .i64 e.N, .string e.S, ve, vc] ∧ RowOf 5 (ExR d) w ve e.E ∧ RowOf 10 (ClR (ExR d)) w vc e.C

/-- What every expression in memory is within. -/
def WfX : (d : Nat) → Ex d → Prop
  | 0, _ => False
  | d + 1, e => I64 e.K ∧ I64 e.N ∧ e.S.size ≤ maxLen ∧ WfRow (WfX d) e.E ∧ WfRow (ClP (WfX d)) e.C

/-- How great an expression is. -/
def szX : (d : Nat) → Ex d → Nat
  | 0, _ => 0
  | d + 1, e => e.S.size + szRow (szX d) e.E + szRow (ClF (szX d)) e.C

theorem ClR.lasts {α : Type} {R : World → List Value → α → Prop} (h : Lasts R) : Lasts (ClR R) := by
  rintro w w' vs c ⟨p, x, rfl, h1, h2⟩ hb
  exact ⟨p, x, rfl, h _ _ _ _ h1 hb, h _ _ _ _ h2 hb⟩
theorem ClO.lasts {α : Type} {O : World → List Value → α → List Nat → Prop} (h : LastsO O) : LastsO (ClO O) := by
  rintro w w' vs c fp ⟨p, x, f, g, rfl, rfl, h1, h2⟩ hb
  exact ⟨p, x, f, g, rfl, rfl, h _ _ _ _ _ h1 fun j hj => hb j (List.mem_append_left _ hj), h _ _ _ _ _ h2 fun j hj => hb j (List.mem_append_right _ hj)⟩
theorem ClO.reads {α : Type} {O : World → List Value → α → List Nat → Prop} {R : World → List Value → α → Prop} (h : Reads O R) : Reads (ClO O) (ClR R) := by
  rintro w vs c fp ⟨p, x, f, g, rfl, rfl, h1, h2⟩
  exact ⟨p, x, rfl, h _ _ _ _ h1, h _ _ _ _ h2⟩

theorem ExR.lasts : ∀ d, Lasts (ExR d) := by
  intro d
  induction d with
  | zero => intro w w' vs x h _; exact h.elim
  | succ d ih =>
    rintro w w' vs x ⟨ve, vc, rfl, h1, h2⟩ hb
    exact ⟨ve, vc, rfl, h1.later ih hb, h2.later (ClR.lasts ih) hb⟩
theorem ExR.shape : ∀ d w vs x, ExR d w vs x → ShExpr vs := by
  intro d w vs x h
  cases d with
  | zero => exact h.elim
  | succ d =>
    obtain ⟨ve, vc, rfl, h1, h2⟩ := h
    obtain ⟨a, c, rfl⟩ := h1.slice
    obtain ⟨a', c', rfl⟩ := h2.slice
    exact ⟨_, _, _, _, _, _, _, _, _, rfl⟩
theorem sh_two {p x : List Value} (h1 : ShExpr p) (h2 : ShExpr x) : ShClause (p ++ x) := by
  obtain ⟨_, _, _, _, _, _, _, _, _, rfl⟩ := h1
  obtain ⟨_, _, _, _, _, _, _, _, _, rfl⟩ := h2
  exact ⟨_, _, _, _, _, _, _, _, _, _, _, _, _, _, _, _, _, _, rfl⟩
theorem ClR.shape {α : Type} {R : World → List Value → α → Prop} (h : ∀ w vs x, R w vs x → ShExpr vs) : ∀ w vs c, ClR R w vs c → ShClause vs := by
  rintro w vs c ⟨p, x, rfl, h1, h2⟩
  exact sh_two (h _ _ _ h1) (h _ _ _ h2)
theorem ClO.shape {α : Type} {O : World → List Value → α → List Nat → Prop} (h : ∀ w vs x f, O w vs x f → ShExpr vs) : ∀ w vs c f, ClO O w vs c f → ShClause vs := by
  rintro w vs c fp ⟨p, x, f, g, rfl, rfl, h1, h2⟩
  exact sh_two (h _ _ _ _ h1) (h _ _ _ _ h2)

/-! The measure. -/

theorem lft_two (left : Int) (a b : Nat) (h : 0 ≤ left) : (lft left a < 0 → lft left (a + b) = -1) ∧ (¬ lft left a < 0 → lft (lft left a) b = lft left (a + b) ∧ 0 ≤ lft left a ∧ lft left a ≤ left) := by
  unfold lft
  refine ⟨fun h1 => ?_, fun h1 => ?_⟩
  · by_cases h2 : (a : Int) ≤ left
    · rw [if_pos h2] at h1; omega
    · rw [if_neg (by omega)]
  · by_cases h2 : (a : Int) ≤ left
    · rw [if_pos h2] at h1 ⊢
      refine ⟨?_, by omega, by omega⟩
      by_cases h3 : (b : Int) ≤ left - a
      · rw [if_pos h3, if_pos (by omega)]; omega
      · rw [if_neg h3, if_neg (by omega)]
    · rw [if_neg h2] at h1; omega

end Go.Proofs.YtfachfimdenapaaDoor
