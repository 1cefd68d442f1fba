/- Terms as plain data, how they lie in memory, and the law's own measure of them. -/
import Derived.Test.YtpokheklplcamaaRows
import Derived.WalkKit
import Derived.WalkSpells
import Derived.WalkLawsBesides
import Derived.BigQuiet
import Derived.Deep.QuietTactic
import Derived.Deep.RegionWith
import Derived.ProofKit
import Derived.OpenShut
import Derived.Deep.Slices
import Derived.Lib.SmallJoins
namespace Go.Proofs.Ytpokheklplcamaa
open Go.RowKit

/-- A term of at most d storeys: its kind, its number, its text, what is in it. -/
def Tm : Nat → Type
  | 0 => Empty
  | d + 1 => Int × Int × ByteArray × List (Tm d)

def Tm.K {d : Nat} (t : Tm (d + 1)) : Int := t.1
def Tm.N {d : Nat} (t : Tm (d + 1)) : Int := t.2.1
def Tm.S {d : Nat} (t : Tm (d + 1)) : ByteArray := t.2.2.1
def Tm.L {d : Nat} (t : Tm (d + 1)) : List (Tm d) := t.2.2.2

/-- Four cells that hold a term's fields. -/
def Four (w : World) (b o : Nat) (k n : Int) (s : ByteArray) (v : Value) : Prop :=
  w.cell? ⟨b, o, none⟩ = some (.int .i64 k) ∧ w.cell? ⟨b, o + 1, none⟩ = some (.int .i64 n) ∧ w.cell? ⟨b, o + 2, none⟩ = some (.string s) ∧ w.cell? ⟨b, o + 3, none⟩ = some v

/-- A value that is a slice of the terms ts. -/
def RdL : (d : Nat) → World → Value → List (Tm d) → Prop
  | 0, _, v, _ => ∃ a c, v = .slice a 0 c
  | d + 1, w, v, ts => ∃ a c, v = .slice a ts.length c ∧ ∀ (i : Nat) (t : Tm (d + 1)), ts[i]? = some t → ∃ b o lv, a = some ⟨b, o, none⟩ ∧ Four w b (o + i * 4) t.K t.N t.S lv ∧ RdL d w lv t.L

/-- That a 64-bit int holds it. -/
def I64 (n : Int) : Prop := -9223372036854775808 ≤ n ∧ n ≤ 9223372036854775807

/-- What every list of terms that is in memory is within. -/
def WfL : (d : Nat) → List (Tm d) → Prop
  | 0, _ => True
  | d + 1, ts => ts.length ≤ 9223372036854775807 ∧ ∀ t ∈ ts, I64 t.K ∧ I64 t.N ∧ t.S.size ≤ maxLen ∧ WfL d t.L

/-- How great a list of terms is: each of them, each letter. -/
def szL : (d : Nat) → List (Tm d) → Nat
  | 0, _ => 0
  | d + 1, ts => ts.length + (ts.map fun t => t.S.size + szL d t.L).sum

/-- What is left of a measure. -/
def lft (left : Int) (n : Nat) : Int := if (n : Int) ≤ left then left - n else -1

theorem tret1 {a b : Int} (h : a = b) : Ending.returned (.int .i64 a) = .returned (.int .i64 b) := by rw [h]

theorem Four.later {w w' : World} {b o : Nat} {k n : Int} {s : ByteArray} {v : Value} (h : Four w b o k n s v) (hb : Below w.heap.size w w') : Four w' b o k n s v :=
  ⟨cell_later hb h.1, cell_later hb h.2.1, cell_later hb h.2.2.1, cell_later hb h.2.2.2⟩

theorem RdL.later : ∀ {d : Nat} {w w' : World} {v : Value} {ts : List (Tm d)}, RdL d w v ts → Below w.heap.size w w' → RdL d w' v ts := by
  intro d
  induction d with
  | zero => intro w w' v ts h _; exact h
  | succ d ih =>
    intro w w' v ts h hb
    obtain ⟨a, c, rfl, h1⟩ := h
    refine ⟨a, c, rfl, fun i t ht => ?_⟩
    obtain ⟨b, o, lv, h2, h4, h5⟩ := h1 i t ht
    exact ⟨b, o, lv, h2, h4.later hb, ih h5 hb⟩

/-- The measure of the first terms of a list. -/
def szP (d : Nat) (ts : List (Tm (d + 1))) (i : Nat) : Nat := ((ts.take i).map fun t => t.S.size + szL d t.L).sum

theorem szP_succ (d : Nat) (ts : List (Tm (d + 1))) (i : Nat) (t : Tm (d + 1)) (h : ts[i]? = some t) : szP d ts (i + 1) = szP d ts i + (t.S.size + szL d t.L) := by
  have hl := (List.getElem?_eq_some_iff.1 h).1
  have he := (List.getElem?_eq_some_iff.1 h).2
  unfold szP
  rw [List.take_succ_eq_append_getElem hl, he]
  simp

theorem szP_le (d : Nat) (ts : List (Tm (d + 1))) (i : Nat) : szP d ts i ≤ (ts.map fun t => t.S.size + szL d t.L).sum := by
  unfold szP
  conv => rhs; rw [← List.take_append_drop i ts]
  rw [List.map_append, List.sum_append]
  omega

theorem szP_all (d : Nat) (ts : List (Tm (d + 1))) : ts.length + szP d ts ts.length = szL (d + 1) ts := by
  unfold szP
  rw [List.take_length]
  rfl

end Go.Proofs.Ytpokheklplcamaa

/- The law's own deep copy of terms: a tree in new memory, no block of which is met twice. -/
namespace Go.Proofs.Ytpokheklplcamaa
open Go.RowKit

/-- The blocks are all unlike, and none is older than B. -/
def Fresh (B : Nat) (w : World) (fp : List Nat) : Prop := fp.Nodup ∧ ∀ g ∈ fp, B ≤ g ∧ g < w.heap.size

theorem bcell {W w1 : World} (hb : Below W.heap.size W w1) : (∀ b o, b < W.heap.size → w1.cell? ⟨b, o, none⟩ = W.cell? ⟨b, o, none⟩) ∧ (∀ b o, b < W.heap.size → w1.frozen? ⟨b, o, none⟩ = W.frozen? ⟨b, o, none⟩) :=
  ⟨fun b o h => hb.cell (p := ⟨b, o, none⟩) h, fun b o h => hb.frozen (p := ⟨b, o, none⟩) h⟩

/-- Four cells of a row written anew. -/
def put4 (cur : Array Value) (o : Nat) (a b c d : Value) : Array Value := (((cur.setIfInBounds o a).setIfInBounds (o + 1) b).setIfInBounds (o + 2) c).setIfInBounds (o + 3) d

theorem put4_size (cur : Array Value) (o : Nat) (a b c d : Value) : (put4 cur o a b c d).size = cur.size := by simp [put4]
theorem put4_other (cur : Array Value) (o : Nat) (a b c d : Value) (j : Nat) (h : j < o ∨ o + 3 < j) : (put4 cur o a b c d)[j]? = cur[j]? := by
  unfold put4
  rw [Array.getElem?_setIfInBounds_ne (by omega), Array.getElem?_setIfInBounds_ne (by omega), Array.getElem?_setIfInBounds_ne (by omega), Array.getElem?_setIfInBounds_ne (by omega)]
theorem put4_at (cur : Array Value) (o : Nat) (a b c d : Value) (h : o + 3 < cur.size) : (put4 cur o a b c d)[o]? = some a ∧ (put4 cur o a b c d)[o + 1]? = some b ∧ (put4 cur o a b c d)[o + 2]? = some c ∧ (put4 cur o a b c d)[o + 3]? = some d := by
  unfold put4
  refine ⟨?_, ?_, ?_, ?_⟩
  · rw [Array.getElem?_setIfInBounds_ne (by omega), Array.getElem?_setIfInBounds_ne (by omega), Array.getElem?_setIfInBounds_ne (by omega), Array.getElem?_setIfInBounds_self]; simp; omega
  · rw [Array.getElem?_setIfInBounds_ne (by omega), Array.getElem?_setIfInBounds_ne (by omega), Array.getElem?_setIfInBounds_self]; simp; omega
  · rw [Array.getElem?_setIfInBounds_ne (by omega), Array.getElem?_setIfInBounds_self]; simp; omega
  · rw [Array.getElem?_setIfInBounds_self]; simp; omega

theorem stores4 (w : World) (g o : Nat) (cur : Array Value) (T : TypeId) (hh : w.heap[g]? = some (.cells cur T (0, 0))) (a b c d : Value) :
    ((((w.setCell ⟨g, o, none⟩ a).setCell ⟨g, o + 1, none⟩ b).setCell ⟨g, o + 2, none⟩ c).setCell ⟨g, o + 3, none⟩ d).heap[g]? = some (.cells (put4 cur o a b c d) T (0, 0)) ∧
    (∀ j, j ≠ g → ((((w.setCell ⟨g, o, none⟩ a).setCell ⟨g, o + 1, none⟩ b).setCell ⟨g, o + 2, none⟩ c).setCell ⟨g, o + 3, none⟩ d).heap[j]? = w.heap[j]?) := by
  constructor
  · exact heap_setCell_same _ g _ _ _ _ (heap_setCell_same _ g _ _ _ _ (heap_setCell_same _ g _ _ _ _ (heap_setCell_same w g _ _ _ _ hh)))
  · intro j hj
    rw [heap_setCell_other _ _ _ _ (by simp; omega), heap_setCell_other _ _ _ _ (by simp; omega), heap_setCell_other _ _ _ _ (by simp; omega), heap_setCell_other _ _ _ _ (by simp; omega)]

theorem stores4_below (w : World) (g o : Nat) (a b c d : Value) : Below g w ((((w.setCell ⟨g, o, none⟩ a).setCell ⟨g, o + 1, none⟩ b).setCell ⟨g, o + 2, none⟩ c).setCell ⟨g, o + 3, none⟩ d) := by
  have h1 := (Below.refl g w).setCell (p := ⟨g, o, none⟩) (Nat.le_refl g) a
  have h2 := h1.setCell (p := ⟨g, o + 1, none⟩) (Nat.le_refl g) b
  have h3 := h2.setCell (p := ⟨g, o + 2, none⟩) (Nat.le_refl g) c
  exact h3.setCell (p := ⟨g, o + 3, none⟩) (Nat.le_refl g) d
theorem stores4_size (w : World) (g o : Nat) (a b c d : Value) : ((((w.setCell ⟨g, o, none⟩ a).setCell ⟨g, o + 1, none⟩ b).setCell ⟨g, o + 2, none⟩ c).setCell ⟨g, o + 3, none⟩ d).heap.size = w.heap.size := by simp

end Go.Proofs.Ytpokheklplcamaa

/- Lists of structs of whatever kind, by the cells of their elements: as they are read, and as they lie in memory of one's own. -/
namespace Go.Proofs.Ytpokheklplcamaa
open Go.RowKit
set_option linter.unusedVariables false

/-- A value that is a slice of what xs tell, k cells each; R says what the cells of one tell. -/
def RowOf {α : Type} (k : Nat) (R : World → List Value → α → Prop) (w : World) (v : Value) (xs : List α) : Prop :=
  ∃ a c, v = .slice a xs.length c ∧ ∀ (i : Nat) (x : α), xs[i]? = some x → ∃ b o vs, a = some ⟨b, o, none⟩ ∧ vs.length = k ∧ (∀ (j : Nat) (u : Value), vs[j]? = some u → w.cell? ⟨b, o + i * k + j, none⟩ = some u) ∧ R w vs x

/-- What is told of a value stays told as long as what was there lies as it lay. -/
def Lasts {α : Type} (R : World → List Value → α → Prop) : Prop := ∀ w w' vs x, R w vs x → Below w.heap.size w w' → R w' vs x

theorem RowOf.later {α : Type} {k : Nat} {R : World → List Value → α → Prop} (hR : Lasts R) {w w' : World} {v : Value} {xs : List α} (h : RowOf k R w v xs) (hb : Below w.heap.size w w') : RowOf k R w' v xs := by
  obtain ⟨a, c, rfl, h1⟩ := h
  refine ⟨a, c, rfl, fun i x hx => ?_⟩
  obtain ⟨b, o, vs, h2, h3, h4, h5⟩ := h1 i x hx
  exact ⟨b, o, vs, h2, h3, fun j u hu => cell_later hb (h4 j u hu), hR _ _ _ _ h5 hb⟩

theorem RowOf.slice {α : Type} {k : Nat} {R : World → List Value → α → Prop} {w : World} {v : Value} {xs : List α} (h : RowOf k R w v xs) : ∃ a c, v = .slice a xs.length c := by
  obtain ⟨a, c, e, _⟩ := h
  exact ⟨a, c, e⟩

def WfRow {α : Type} (P : α → Prop) (xs : List α) : Prop := xs.length ≤ 9223372036854775807 ∧ ∀ x ∈ xs, P x

def sumP {α : Type} (f : α → Nat) (xs : List α) (i : Nat) : Nat := ((xs.take i).map f).sum
def szRow {α : Type} (f : α → Nat) (xs : List α) : Nat := xs.length + (xs.map f).sum

theorem sumP_succ {α : Type} (f : α → Nat) (xs : List α) (i : Nat) (x : α) (h : xs[i]? = some x) : sumP f xs (i + 1) = sumP f xs i + f x := by
  have hl := (List.getElem?_eq_some_iff.1 h).1
  have he := (List.getElem?_eq_some_iff.1 h).2
  unfold sumP
  rw [List.take_succ_eq_append_getElem hl, he]
  simp
theorem sumP_le {α : Type} (f : α → Nat) (xs : List α) (i : Nat) : sumP f xs i ≤ (xs.map f).sum := by
  unfold sumP
  conv => rhs; rw [← List.take_append_drop i xs]
  rw [List.map_append, List.sum_append]
  omega
theorem sumP_all {α : Type} (f : α → Nat) (xs : List α) : xs.length + sumP f xs xs.length = szRow f xs := by
  unfold sumP szRow
  rw [List.take_length]
theorem szRow_mem {α : Type} {f : α → Nat} {xs : List α} {i : Nat} {x : α} (h : xs[i]? = some x) : f x ≤ szRow f xs := by
  have h1 := sumP_succ f xs i x h
  have h2 := sumP_le f xs (i + 1)
  unfold szRow
  omega

/-- Cells of a row written anew, one after the other. -/
def putL (cur : Array Value) (o : Nat) : List Value → Array Value
  | [] => cur
  | v :: vs => putL (cur.setIfInBounds o v) (o + 1) vs
def setL (w : World) (g o : Nat) : List Value → World
  | [] => w
  | v :: vs => setL (w.setCell ⟨g, o, none⟩ v) g (o + 1) vs

theorem putL_size : ∀ (vs : List Value) (cur : Array Value) (o : Nat), (putL cur o vs).size = cur.size := by
  intro vs
  induction vs with
  | nil => intro cur o; rfl
  | cons v vs ih => intro cur o; rw [putL, ih]; simp
theorem putL_other : ∀ (vs : List Value) (cur : Array Value) (o j : Nat), j < o ∨ o + vs.length ≤ j → (putL cur o vs)[j]? = cur[j]? := by
  intro vs
  induction vs with
  | nil => intro cur o j _; rfl
  | cons v vs ih => intro cur o j h; simp only [List.length_cons] at h; rw [putL, ih _ _ _ (by omega), Array.getElem?_setIfInBounds_ne (by omega)]
theorem putL_at : ∀ (vs : List Value) (cur : Array Value) (o i : Nat) (u : Value), o + vs.length ≤ cur.size → vs[i]? = some u → (putL cur o vs)[o + i]? = some u := by
  intro vs
  induction vs with
  | nil => intro cur o i u _ h; simp at h
  | cons v vs ih =>
    intro cur o i u hs h
    simp only [List.length_cons] at hs
    rw [putL]
    cases i with
    | zero =>
      simp only [List.getElem?_cons_zero, Option.some.injEq] at h
      rw [putL_other _ _ _ _ (by omega), Nat.add_zero, Array.getElem?_setIfInBounds_self, if_pos (by omega), h]
    | succ i =>
      simp only [List.getElem?_cons_succ] at h
      have := ih (cur.setIfInBounds o v) (o + 1) i u (by simp; omega) h
      rw [show o + (i + 1) = o + 1 + i by omega]
      exact this
theorem setL_row : ∀ (vs : List Value) (w : World) (g o : Nat) (cur : Array Value) (T : TypeId), w.heap[g]? = some (.cells cur T (0, 0)) → (setL w g o vs).heap[g]? = some (.cells (putL cur o vs) T (0, 0)) := by
  intro vs
  induction vs with
  | nil => intro w g o cur T h; exact h
  | cons v vs ih => intro w g o cur T h; exact ih _ _ _ _ _ (heap_setCell_same w g _ _ _ _ h)
theorem setL_other : ∀ (vs : List Value) (w : World) (g o j : Nat), j ≠ g → (setL w g o vs).heap[j]? = w.heap[j]? := by
  intro vs
  induction vs with
  | nil => intro w g o j _; rfl
  | cons v vs ih => intro w g o j h; rw [setL, ih _ _ _ _ h, heap_setCell_other _ _ _ _ (by simp; omega)]
theorem setL_size : ∀ (vs : List Value) (w : World) (g o : Nat), (setL w g o vs).heap.size = w.heap.size := by
  intro vs
  induction vs with
  | nil => intro w g o; rfl
  | cons v vs ih => intro w g o; rw [setL, ih]; simp
theorem setL_below : ∀ (vs : List Value) (w : World) (g o B : Nat), B ≤ g → Below B w (setL w g o vs) := by
  intro vs
  induction vs with
  | nil => intro w g o B _; exact Below.refl _ _
  | cons v vs ih => intro w g o B h; exact ((Below.refl B w).setCell (p := ⟨g, o, none⟩) h v).trans (ih _ _ _ _ h)

/-- The same in blocks of one's own. -/
def OwnRow {α : Type} (k : Nat) (T : TypeId) (O : World → List Value → α → List Nat → Prop) (w : World) (v : Value) (xs : List α) (fp : List Nat) : Prop :=
  (xs = [] ∧ fp = [] ∧ ∃ a c, v = .slice a 0 c) ∨
    ∃ (g c : Nat) (cur : Array Value) (fps : List (List Nat)), v = .slice (some ⟨g, 0, none⟩) xs.length c ∧ w.heap[g]? = some (.cells cur T (0, 0)) ∧ (fps.length = xs.length ∧ xs.length ≤ c) ∧ fp = g :: fps.flatten ∧
      ∀ (i : Nat) (x : α), xs[i]? = some x → ∃ vs f, fps[i]? = some f ∧ vs.length = k ∧ (∀ (j : Nat) (u : Value), vs[j]? = some u → cur[i * k + j]? = some u) ∧ O w vs x f

def LastsO {α : Type} (O : World → List Value → α → List Nat → Prop) : Prop := ∀ w w' vs x f, O w vs x f → (∀ g ∈ f, w'.heap[g]? = w.heap[g]?) → O w' vs x f
def Reads {α : Type} (O : World → List Value → α → List Nat → Prop) (R : World → List Value → α → Prop) : Prop := ∀ w vs x f, O w vs x f → R w vs x

theorem OwnRow.frame {α : Type} {k : Nat} {T : TypeId} {O : World → List Value → α → List Nat → Prop} (hO : LastsO O) {w w' : World} {v : Value} {xs : List α} {fp : List Nat} (h : OwnRow k T O w v xs fp) (hh : ∀ g ∈ fp, w'.heap[g]? = w.heap[g]?) : OwnRow k T O w' v xs fp := by
  rcases h with h | ⟨g, c, cur, fps, h1, h2, h3, rfl, h4⟩
  · exact .inl h
  · refine .inr ⟨g, c, cur, fps, h1, by rw [hh g (List.mem_cons_self ..)]; exact h2, h3, rfl, fun i x hx => ?_⟩
    obtain ⟨vs, f, e1, e2, e3, e4⟩ := h4 i x hx
    exact ⟨vs, f, e1, e2, e3, hO _ _ _ _ _ e4 fun j hj => hh j (List.mem_cons_of_mem _ (List.mem_flatten.2 ⟨f, List.mem_of_getElem? e1, hj⟩))⟩

theorem OwnRow.rd {α : Type} {k : Nat} {T : TypeId} {O : World → List Value → α → List Nat → Prop} {R : World → List Value → α → Prop} (hO : Reads O R) {w : World} {v : Value} {xs : List α} {fp : List Nat} (h : OwnRow k T O w v xs fp) : RowOf k R w v xs := by
  rcases h with ⟨rfl, _, a, c, rfl⟩ | ⟨g, c, cur, fps, rfl, h2, h3, rfl, h4⟩
  · exact ⟨a, c, rfl, fun i x hx => by simp at hx⟩
  · refine ⟨_, c, rfl, fun i x hx => ?_⟩
    obtain ⟨vs, f, e1, e2, e3, e4⟩ := h4 i x hx
    refine ⟨g, 0, vs, rfl, e2, fun j u hu => ?_, hO _ _ _ _ e4⟩
    rw [Nat.zero_add, cell_of_row w _ _ _ _ _ h2]
    exact e3 j u hu

/-- The first n of a list lie copied in the row at B. -/
def DoneRow {α : Type} (k : Nat) (O : World → List Value → α → List Nat → Prop) (xs : List α) (n : Nat) (w : World) (cur : Array Value) (fps : List (List Nat)) : Prop :=
  ∀ (i : Nat) (x : α), i < n → xs[i]? = some x → ∃ vs f, fps[i]? = some f ∧ vs.length = k ∧ (∀ (j : Nat) (u : Value), vs[j]? = some u → cur[i * k + j]? = some u) ∧ O w vs x f

theorem row_step {α : Type} {k : Nat} {T : TypeId} {O : World → List Value → α → List Nat → Prop} (hO : LastsO O) {xs : List α} {B len n : Nat} {w wr w2 : World} {cur : Array Value} {fps : List (List Nat)} {x : α} {vs : List Value} {fp : List Nat}
    (hk : n < len) (hcs : cur.size = len * k) (hfl : fps.length = n) (hnd : fps.flatten.Nodup) (hfr : ∀ g ∈ fps.flatten, B < g ∧ g < wr.heap.size) (hwz : B < wr.heap.size) (hb : Below B w wr) (hb2 : Below wr.heap.size wr w2)
    (hdone : DoneRow k O xs n wr cur fps) (ht : xs[n]? = some x) (hvs : vs.length = k) (hown : O w2 vs x fp) (hfr2 : Fresh wr.heap.size w2 fp) (hrow : w2.heap[B]? = some (.cells cur T (0, 0))) :
    (setL w2 B (n * k) vs).heap[B]? = some (.cells (putL cur (n * k) vs) T (0, 0)) ∧ (putL cur (n * k) vs).size = len * k ∧ (fps ++ [fp]).length = n + 1 ∧ (fps ++ [fp]).flatten.Nodup ∧ (∀ g ∈ (fps ++ [fp]).flatten, B < g ∧ g < (setL w2 B (n * k) vs).heap.size) ∧ Below B w (setL w2 B (n * k) vs) ∧
      DoneRow k O xs (n + 1) (setL w2 B (n * k) vs) (putL cur (n * k) vs) (fps ++ [fp]) := by
  have hmem : ∀ g ∈ fps.flatten, g < wr.heap.size := fun g hg => (hfr g hg).2
  have hroom : n * k + vs.length ≤ cur.size := by
    have h1 : (n + 1) * k ≤ len * k := Nat.mul_le_mul_right k hk
    rw [Nat.add_mul, Nat.one_mul] at h1
    omega
  refine ⟨setL_row _ _ _ _ _ _ hrow, by rw [putL_size, hcs], by simp [hfl], ?_, ?_, (hb.trans (hb2.mono (by omega))).trans (setL_below _ _ _ _ _ (Nat.le_refl _)), ?_⟩
  · rw [List.flatten_append, List.flatten_singleton, List.nodup_append]
    exact ⟨hnd, hfr2.1, fun a ha b hb e => by have := hmem a ha; have := (hfr2.2 b hb).1; omega⟩
  · intro g hg
    rw [List.flatten_append, List.flatten_singleton, List.mem_append] at hg
    rw [setL_size]
    rcases hg with hg | hg
    · have := hfr g hg; have := hb2.size; omega
    · have := hfr2.2 g hg; omega
  · intro i u hi hu
    by_cases hik : i < n
    · obtain ⟨vs', f, e1, e2, e3, e4⟩ := hdone i u hik hu
      refine ⟨vs', f, by rw [List.getElem?_append_left (by omega)]; exact e1, e2, fun j y hy => ?_, hO _ _ _ _ _ e4 fun g hg => ?_⟩
      · have hj := (List.getElem?_eq_some_iff.1 hy).1
        have h1 : (i + 1) * k ≤ n * k := Nat.mul_le_mul_right k hik
        rw [Nat.add_mul, Nat.one_mul] at h1
        rw [putL_other _ _ _ _ (by omega)]
        exact e3 j y hy
      · have hgf : g ∈ fps.flatten := List.mem_flatten.2 ⟨f, List.mem_of_getElem? e1, hg⟩
        have := hfr g hgf
        rw [setL_other _ _ _ _ _ (by omega), hb2.block g (by omega)]
    · obtain rfl : i = n := by omega
      rw [ht] at hu
      obtain rfl := Option.some.inj hu
      refine ⟨vs, fp, by rw [List.getElem?_append_right (by omega), hfl]; simp, hvs, fun j y hy => putL_at _ _ _ _ _ hroom hy, hO _ _ _ _ _ hown fun g hg => ?_⟩
      have := (hfr2.2 g hg).1
      exact setL_other _ _ _ _ _ (by omega)

theorem row_done {α : Type} {k : Nat} {T : TypeId} {O : World → List Value → α → List Nat → Prop} {xs : List α} {B len : Nat} {w wr : World} {cur : Array Value} {fps : List (List Nat)} (hl : xs.length = len) (hfl : fps.length = len) (hnd : fps.flatten.Nodup) (hfr : ∀ g ∈ fps.flatten, B < g ∧ g < wr.heap.size) (hwz : B < wr.heap.size) (hrow : wr.heap[B]? = some (.cells cur T (0, 0))) (hd : DoneRow k O xs len wr cur fps) :
    OwnRow k T O wr (.slice (some ⟨B, 0, none⟩) len len) xs (B :: fps.flatten) ∧ Fresh B wr (B :: fps.flatten) := by
  refine ⟨.inr ⟨B, len, cur, fps, by rw [hl], hrow, ⟨by rw [hfl, hl], by omega⟩, rfl, fun i x hx => hd i x (by have := (List.getElem?_eq_some_iff.1 hx).1; omega) hx⟩, List.nodup_cons.2 ⟨fun hg => by have := (hfr _ hg).1; omega, hnd⟩, fun g hg => ?_⟩
  rcases List.mem_cons.1 hg with rfl | hg
  · omega
  · have := hfr g hg; omega

theorem lt_row {w : World} {g : Nat} {o : Obj} (h : w.heap[g]? = some o) : g < w.heap.size := Nat.lt_of_not_le fun hn => by rw [Array.getElem?_eq_none hn] at h; cases h

end Go.Proofs.Ytpokheklplcamaa

/- The contracts of the law's own measure, copy and comparison, of one and of a list. -/
namespace Go.Proofs.Ytpokheklplcamaa
open Go.RowKit

def SzEl {α : Type} (F : Nat) (R : World → List Value → α → Prop) (P : α → Prop) (f : α → Nat) : Prop := ∀ (vs : List Value) (x : α) (left : Int) (w : World), R w vs x → P x → 0 ≤ left → left ≤ 1048576 →
  Calls Try.prog F #[.agg vs.toArray, .int .i64 left] w fun e w' => e = .returned (.int .i64 (lft left (f x))) ∧ Below w.heap.size w w'
def SzLs {α : Type} (F k : Nat) (R : World → List Value → α → Prop) (P : α → Prop) (f : α → Nat) : Prop := ∀ (v : Value) (xs : List α) (left : Int) (w : World), RowOf k R w v xs → WfRow P xs → 0 ≤ left → left ≤ 1048576 →
  Calls Try.prog F #[v, .int .i64 left] w fun e w' => e = .returned (.int .i64 (lft left (szRow f xs))) ∧ Below w.heap.size w w'
def ToEl {α : Type} (F : Nat) (R : World → List Value → α → Prop) (O : World → List Value → α → List Nat → Prop) (P : α → Prop) (f : α → Nat) : Prop := ∀ (vs : List Value) (x : α) (w : World), R w vs x → P x → f x ≤ 1048576 →
  Calls Try.prog F #[.agg vs.toArray] w fun e w' => ∃ vs' fp, e = .returned (.agg vs'.toArray) ∧ O w' vs' x fp ∧ Fresh w.heap.size w' fp ∧ Below w.heap.size w w'
def ToLs {α : Type} (F k : Nat) (T : TypeId) (R : World → List Value → α → Prop) (O : World → List Value → α → List Nat → Prop) (P : α → Prop) (f : α → Nat) : Prop := ∀ (v : Value) (xs : List α) (w : World), RowOf k R w v xs → WfRow P xs → szRow f xs ≤ 1048576 →
  Calls Try.prog F #[v] w fun e w' => ∃ a l c fp, e = .returned (.slice a l c) ∧ OwnRow k T O w' (.slice a l c) xs fp ∧ Fresh w.heap.size w' fp ∧ Below w.heap.size w w'
def EqEl {α : Type} (F : Nat) (R : World → List Value → α → Prop) (P : α → Prop) : Prop := ∀ (vs1 vs2 : List Value) (x : α) (w : World), R w vs1 x → R w vs2 x → P x →
  Calls Try.prog F #[.agg vs1.toArray, .agg vs2.toArray] w fun e w' => e = .returned (.bool true) ∧ Below w.heap.size w w'
def EqLs {α : Type} (F k : Nat) (R : World → List Value → α → Prop) (P : α → Prop) : Prop := ∀ (v1 v2 : Value) (xs : List α) (w : World), RowOf k R w v1 xs → RowOf k R w v2 xs → WfRow P xs →
  Calls Try.prog F #[v1, v2] w fun e w' => e = .returned (.bool true) ∧ Below w.heap.size w w'

end Go.Proofs.Ytpokheklplcamaa

/- The law's own comparison of terms: two that read as one are alike. -/
namespace Go.Proofs.Ytpokheklplcamaa
open Go.RowKit

theorem RdL.shape {d : Nat} {w : World} {v : Value} {ts : List (Tm d)} (h : RdL d w v ts) : ∃ a l c, v = .slice a l c := by
  cases d with
  | zero => obtain ⟨a, c, h⟩ := h; exact ⟨a, _, c, h⟩
  | succ d => obtain ⟨a, c, h, _⟩ := h; exact ⟨a, _, c, h⟩

end Go.Proofs.Ytpokheklplcamaa

/- What the model's comparison of two terms comes to: whether they are one. -/
namespace Go.Proofs.Ytpokheklplcamaa
open Go.RowKit
set_option linter.unusedVariables false

/-- The contract of the comparison, at terms of d storeys below. -/
def Sm (f d : Nat) : Prop := ∀ (k n : Int) (s : ByteArray) (l : Value) (ts : List (Tm d)) (k' n' : Int) (s' : ByteArray) (l' : Value) (ts' : List (Tm d)) (w : World), RdL d w l ts → RdL d w l' ts' → WfL d ts → WfL d ts' →
  Calls Try.prog f #[.agg #[.int .i64 k, .int .i64 n, .string s, l], .agg #[.int .i64 k', .int .i64 n', .string s', l']] w fun e w' => ∃ b : Bool, e = .returned (.bool b) ∧ (b = true ↔ k = k' ∧ n = n' ∧ s = s' ∧ ts = ts') ∧ Below w.heap.size w w'

theorem toList_inj {x y : ByteArray} (h : x.toList = y.toList) : x = y := by
  rw [ByteArray.toList_eq, ByteArray.toList_eq] at h
  exact ByteArray.ext (Array.toList_inj.mp h)

theorem RdL.len {d : Nat} {w : World} {v : Value} {ts : List (Tm d)} (h : RdL d w v ts) : ∃ a c, v = .slice a ts.length c := by
  cases d with
  | zero =>
    obtain ⟨a, c, h⟩ := h
    have : ts = [] := by
      cases ts with
      | nil => rfl
      | cons t _ => exact Empty.elim t
    exact ⟨a, c, by rw [h, this]; rfl⟩
  | succ d => obtain ⟨a, c, h, _⟩ := h; exact ⟨a, c, h⟩

theorem WfL.len {d : Nat} {ts : List (Tm d)} (h : WfL d ts) : ts.length ≤ 9223372036854775807 := by
  cases d with
  | zero =>
    cases ts with
    | nil => simp
    | cons t _ => exact Empty.elim t
  | succ d => exact h.1

theorem tm_ext {d : Nat} {t t' : Tm (d + 1)} (h1 : t.K = t'.K) (h2 : t.N = t'.N) (h3 : t.S = t'.S) (h4 : t.L = t'.L) : t = t' := by
  obtain ⟨a, b, c, e⟩ := t
  obtain ⟨a', b', c', e'⟩ := t'
  simp only [Tm.K, Tm.N, Tm.S, Tm.L] at h1 h2 h3 h4
  subst h1; subst h2; subst h3; subst h4
  rfl

theorem heap_two (w : World) (o1 o2 : Obj) : ((w.alloc o1).alloc o2).heap[w.heap.size]? = some o1 ∧ ((w.alloc o1).alloc o2).heap[w.heap.size + 1]? = some o2 := by
  constructor
  · rw [Below.heap_alloc _ _ _ (by simp)]; exact heap_alloc_new w o1
  · have := heap_alloc_new (w.alloc o1) o2
    simpa using this

end Go.Proofs.Ytpokheklplcamaa

/- How many terms there are, how deep they are, and that the model's two functions tell it. -/
namespace Go.Proofs.Ytpokheklplcamaa
open Go.RowKit
set_option linter.unusedVariables false

/-- How many terms are in a list, all storeys. -/
def cntL : (d : Nat) → List (Tm d) → Nat
  | 0, _ => 0
  | d + 1, ts => (ts.map fun t => 1 + cntL d t.L).sum

/-- How deep the deepest of a list is. -/
def depL : (d : Nat) → List (Tm d) → Nat
  | 0, _ => 0
  | d + 1, ts => (ts.map fun t => 1 + depL d t.L).foldl max 0

def cntP (d : Nat) (ts : List (Tm (d + 1))) (i : Nat) : Nat := ((ts.take i).map fun t => 1 + cntL d t.L).sum
def depP (d : Nat) (ts : List (Tm (d + 1))) (i : Nat) : Nat := ((ts.take i).map fun t => 1 + depL d t.L).foldl max 0

theorem cntP_succ (d : Nat) (ts : List (Tm (d + 1))) (i : Nat) (t : Tm (d + 1)) (h : ts[i]? = some t) : cntP d ts (i + 1) = cntP d ts i + (1 + cntL d t.L) := by
  have hl := (List.getElem?_eq_some_iff.1 h).1
  have he := (List.getElem?_eq_some_iff.1 h).2
  unfold cntP
  rw [List.take_succ_eq_append_getElem hl, he]
  simp
theorem depP_succ (d : Nat) (ts : List (Tm (d + 1))) (i : Nat) (t : Tm (d + 1)) (h : ts[i]? = some t) : depP d ts (i + 1) = max (depP d ts i) (1 + depL d t.L) := by
  have hl := (List.getElem?_eq_some_iff.1 h).1
  have he := (List.getElem?_eq_some_iff.1 h).2
  unfold depP
  rw [List.take_succ_eq_append_getElem hl, he]
  simp
theorem cntP_all (d : Nat) (ts : List (Tm (d + 1))) (i : Nat) (h : ts.length ≤ i) : cntP d ts i = cntL (d + 1) ts := by
  unfold cntP; rw [List.take_of_length_le h]; rfl
theorem depP_all (d : Nat) (ts : List (Tm (d + 1))) (i : Nat) (h : ts.length ≤ i) : depP d ts i = depL (d + 1) ts := by
  unfold depP; rw [List.take_of_length_le h]; rfl
theorem cntP_le (d : Nat) (ts : List (Tm (d + 1))) (i : Nat) : cntP d ts i ≤ cntL (d + 1) ts := by
  show _ ≤ (ts.map fun t => 1 + cntL d t.L).sum
  unfold cntP
  conv => rhs; rw [← List.take_append_drop i ts]
  rw [List.map_append, List.sum_append]
  omega

theorem cntL_szL : ∀ (d : Nat) (ts : List (Tm d)), cntL d ts ≤ szL d ts := by
  intro d
  induction d with
  | zero => intro ts; exact Nat.le_refl _
  | succ d ih =>
    intro ts
    show (ts.map fun t => 1 + cntL d t.L).sum ≤ ts.length + (ts.map fun t => t.S.size + szL d t.L).sum
    induction ts with
    | nil => simp
    | cons t r ih2 =>
      have := ih t.L
      simp only [List.map_cons, List.sum_cons, List.length_cons]
      omega

theorem foldl_max_ge (l : List Nat) : ∀ a, a ≤ l.foldl max a ∧ ∀ x ∈ l, x ≤ l.foldl max a := by
  induction l with
  | nil => intro a; exact ⟨Nat.le_refl _, fun x hx => by cases hx⟩
  | cons b r ih =>
    intro a
    have h := ih (max a b)
    refine ⟨by simp only [List.foldl_cons]; omega, fun x hx => ?_⟩
    rcases List.mem_cons.1 hx with rfl | hx
    · simp only [List.foldl_cons]; omega
    · simp only [List.foldl_cons]; exact h.2 x hx
theorem foldl_max_le (l : List Nat) : ∀ (a m : Nat), a ≤ m → (∀ x ∈ l, x ≤ m) → l.foldl max a ≤ m := by
  induction l with
  | nil => intro a m h _; exact h
  | cons b r ih =>
    intro a m h hx
    exact ih (max a b) m (by have := hx b (List.mem_cons_self ..); omega) fun x hx' => hx x (List.mem_cons_of_mem _ hx')

theorem depL_cntL : ∀ (d : Nat) (ts : List (Tm d)), depL d ts ≤ cntL d ts := by
  intro d
  induction d with
  | zero => intro ts; exact Nat.le_refl _
  | succ d ih =>
    intro ts
    refine foldl_max_le _ 0 _ (Nat.zero_le _) fun x hx => ?_
    obtain ⟨t, ht, rfl⟩ := List.mem_map.1 hx
    have h1 := ih t.L
    have h2 : ∀ (l : List (Tm (d + 1))), t ∈ l → 1 + cntL d t.L ≤ (l.map fun t => 1 + cntL d t.L).sum := by
      intro l hl
      induction l with
      | nil => cases hl
      | cons b r ih2 =>
        simp only [List.map_cons, List.sum_cons]
        rcases List.mem_cons.1 hl with rfl | hl
        · omega
        · have := ih2 hl; omega
    have := h2 ts ht
    show 1 + depL d t.L ≤ (ts.map fun t => 1 + cntL d t.L).sum
    omega

theorem depP_le (d : Nat) (ts : List (Tm (d + 1))) (i : Nat) : depP d ts i ≤ depL (d + 1) ts := by
  refine foldl_max_le _ 0 _ (Nat.zero_le _) fun x hx => ?_
  obtain ⟨t, ht, rfl⟩ := List.mem_map.1 hx
  exact (foldl_max_ge _ 0).2 _ (List.mem_map.2 ⟨t, List.mem_of_mem_take ht, rfl⟩)

/-- The contract of a function that tells a number of a term. -/
def Tells (f d : Nat) (g : (d : Nat) → List (Tm d) → Nat) : Prop := ∀ (k n : Int) (s : ByteArray) (l : Value) (ts : List (Tm d)) (w : World), RdL d w l ts → WfL d ts → cntL d ts ≤ 1099511627776 →
  Calls Try.prog f #[.agg #[.int .i64 k, .int .i64 n, .string s, l]] w fun e w' => e = .returned (.int .i64 (1 + g d ts : Nat)) ∧ Below w.heap.size w w'

theorem cnt_elem {d : Nat} {ts : List (Tm (d + 1))} {j : Nat} {t : Tm (d + 1)} (ht : ts[j]? = some t) (h : cntL (d + 1) ts ≤ 1099511627776) : cntL d t.L ≤ 1099511627776 := by
  have h1 := cntP_succ d ts j t ht
  have h2 := cntP_le d ts (j + 1)
  omega

end Go.Proofs.Ytpokheklplcamaa

/- When a term is right, and that the model's checks tell it. -/
namespace Go.Proofs.Ytpokheklplcamaa
open Go.RowKit
set_option linter.unusedVariables false

theorem iff_no {P : Prop} (h : ¬ P) : false = true ↔ P := ⟨fun e => Bool.noConfusion e, fun p => absurd p h⟩
theorem iff_yes {P : Prop} (h : P) : true = true ↔ P := ⟨fun _ => h, fun _ => rfl⟩

theorem specIn_any (x lo hi : Int) (w : World) :
    Calls Try.prog 100 #[.int .i64 x, .int .i64 lo, .int .i64 hi] w fun e w' => e = .returned (.bool (decide (lo ≤ x ∧ x ≤ hi))) ∧ w = w' := by
  by_cases h1 : lo ≤ x
  · by_cases h2 : x ≤ hi
    · have hd : decide (lo ≤ x ∧ x ≤ hi) = true := by simp [h1, h2]
      rw [hd]
      go_enter Try.func100, Try.ntmps100
      go_wp2
      go_ret
      exact ⟨rfl, rfl⟩
    · have hd : decide (lo ≤ x ∧ x ≤ hi) = false := by simp; omega
      rw [hd]
      go_enter Try.func100, Try.ntmps100
      go_wp2
      go_ret
      exact ⟨rfl, rfl⟩
  · have hd : decide (lo ≤ x ∧ x ≤ hi) = false := by simp; omega
    rw [hd]
    go_enter Try.func100, Try.ntmps100
    go_wp2
    go_ret
    exact ⟨rfl, rfl⟩

/-- A letter that an atom may have at place i. -/
def ChOk (i : Nat) (x : Int) : Prop := (97 ≤ x ∧ x ≤ 122) ∨ (i ≠ 0 ∧ ((48 ≤ x ∧ x ≤ 57) ∨ x = 95))

/-- An atom. -/
def AtomP (s : ByteArray) : Prop := (∀ (i : Nat) (h : i < s.size), ChOk i (s[i].toNat : Int)) ∧ 1 ≤ s.size ∧ s.size ≤ 20

set_option maxHeartbeats 1000000 in
theorem specAtomOk_any (s : ByteArray) (w : World) (hs : s.size ≤ 9223372036854775807) :
    Calls Try.prog 113 #[.string s] w fun e w' => ∃ b : Bool, e = .returned (.bool b) ∧ (b = true ↔ AtomP s) ∧ w = w' := by
  go_enter Try.func113, Try.ntmps113
  go_wp2_with fail
  go_loop [3] (fun i => ∃ k : Nat, k ≤ s.size ∧ i = .int .i64 k ∧ Hid (∀ (j : Nat) (h : j < s.size), j < k → ChOk j (s[j].toNat : Int))) (fun i => s.size - (intOf i).toNat)
  case atStart => exact ⟨0, Nat.zero_le _, rfl, fun j _ hj => by omega⟩
  case round =>
    obtain ⟨k, hk, rfl, HD⟩ := hrel
    by_cases hlt : k < s.size
    · have hbyte : (s[k].toNat : Int) ≤ 255 := by have := s[k].toNat_lt; omega
      obtain ⟨x, hx⟩ : ∃ x, wrap64 (s[k].toNat : Int) = x := ⟨_, rfl⟩
      have HX : Hid ((s[k].toNat : Int) = x) := by rw [← hx]; exact (IntWalk.wrap64_in _ ⟨by omega, by omega⟩).symm
      clear hbyte
      have HN : Hid (ChOk k x → ∀ (j : Nat) (h : j < s.size), j < k + 1 → ChOk j (s[j].toNat : Int)) := fun hc j hj hjk => by
        by_cases h : j < k
        · exact HD.out j hj h
        · obtain rfl : j = k := by omega
          rw [HX.out]; exact hc
      have HF : Hid (¬ ChOk k x → ¬ AtomP s) := fun hc ha => hc (by rw [← HX.out]; exact ha.1 k hlt)
      go_wp2_with fail
      clear hx
      generalize Value.int IntKind.u8 (s[k].toNat : Int) = u
      by_cases hsm : 97 ≤ x ∧ x ≤ 122
      · have hL := specIn_any x 97 122 w
        rw [show decide (97 ≤ x ∧ x ≤ 122) = true from by simp [hsm]] at hL
        have HR := HN.out (.inl hsm)
        have HRR : Hid (∀ (j : Nat) (h : j < s.size), j < k + 1 → ChOk j (s[j].toNat : Int)) := HR
        clear HR HN HF HX HD hsm
        refine hL.mono ?_
        clear hL
        rintro e w' ⟨rfl, rfl⟩
        go_wp2_with fail
        go_round
        case rel => exact ⟨k + 1, by omega, by go_num, HRR⟩
        case measure => simp [intOf]; omega
      · have hL := specIn_any x 97 122 w
        rw [show decide (97 ≤ x ∧ x ≤ 122) = false from by simp; omega] at hL
        refine hL.mono ?_
        clear hL
        rintro e w' ⟨rfl, rfl⟩
        by_cases hk0 : k = 0
        · have hb0 : ((k : Int) == 0) = true := by simp [hk0]
          have HR : Hid (¬ AtomP s) := HF.out (fun h => by rcases h with h | h; exact hsm h; exact h.1 hk0)
          clear HF HN HX HD hsm hk0
          go_wp2_with fail
          go_ret
          exact ⟨false, rfl, by simp only [Bool.false_eq_true, false_iff]; exact HR.out, rfl⟩
        · have hb0 : ((k : Int) == 0) = false := by simp [hk0]
          by_cases hdg : 48 ≤ x ∧ x ≤ 57
          · have hL := specIn_any x 48 57 w
            rw [show decide (48 ≤ x ∧ x ≤ 57) = true from by simp [hdg]] at hL
            have HRR : Hid (∀ (j : Nat) (h : j < s.size), j < k + 1 → ChOk j (s[j].toNat : Int)) := HN.out (.inr ⟨hk0, .inl hdg⟩)
            clear HN HF HX HD hsm hdg hk0
            go_wp2_with fail
            refine hL.mono ?_
            clear hL
            rintro e w' ⟨rfl, rfl⟩
            go_wp2_with fail
            go_round
            case rel => exact ⟨k + 1, by omega, by go_num, HRR⟩
            case measure => simp [intOf]; omega
          · have hL := specIn_any x 48 57 w
            rw [show decide (48 ≤ x ∧ x ≤ 57) = false from by simp; omega] at hL
            by_cases hu : x = 95
            · have hub : (x != 95) = false := by simp [hu]
              have HRR : Hid (∀ (j : Nat) (h : j < s.size), j < k + 1 → ChOk j (s[j].toNat : Int)) := HN.out (.inr ⟨hk0, .inr hu⟩)
              clear HN HF HX HD hsm hdg hk0 hu
              go_wp2_with fail
              refine hL.mono ?_
              clear hL
              rintro e w' ⟨rfl, rfl⟩
              go_wp2_with fail
              go_round
              case rel => exact ⟨k + 1, by omega, by go_num, HRR⟩
              case measure => simp [intOf]; omega
            · have hub : (x != 95) = true := by simp [hu]
              have HR : Hid (¬ AtomP s) := HF.out (fun h => by rcases h with h | ⟨_, h | h⟩; exact hsm h; exact hdg h; exact hu h)
              clear HF HN HX HD hsm hdg hk0 hu
              go_wp2_with fail
              refine hL.mono ?_
              clear hL
              rintro e w' ⟨rfl, rfl⟩
              go_wp2_with fail
              go_ret
              exact ⟨false, rfl, by simp only [Bool.false_eq_true, false_iff]; exact HR.out, rfl⟩
    · have hL := specIn_any s.size 1 20 w
      go_wp2_with fail
      refine hL.mono ?_
      clear hL
      rintro e w' ⟨rfl, rfl⟩
      have HF : Hid ((decide (1 ≤ (s.size : Int)) && decide ((s.size : Int) ≤ 20)) = true ↔ AtomP s) := by
        show _ ↔ _
        rw [Bool.and_eq_true, decide_eq_true_iff, decide_eq_true_iff]
        exact ⟨fun h => ⟨fun j hj => HD.out j hj (by omega), by omega, by omega⟩, fun h => ⟨by have := h.2.1; omega, by have := h.2.2; omega⟩⟩
      go_wp2
      go_ret
      exact ⟨_, rfl, HF.out, rfl⟩

/-- A term that is right, all but what is in it. -/
def Shape (k n : Int) (s : ByteArray) (len : Nat) : Prop :=
  (k = 1 ∧ (-1000000000000 ≤ n ∧ n ≤ 1000000000000) ∧ s.size = 0 ∧ len = 0) ∨ (k = 2 ∧ AtomP s ∧ n = 0 ∧ len = 0) ∨ (k = 3 ∧ (0 ≤ n ∧ n ≤ 1000000) ∧ s.size = 0 ∧ len = 0) ∨ (k = 4 ∧ n = 0 ∧ s.size = 0 ∧ len ≤ 20) ∨ (k = 5 ∧ n = 0 ∧ s.size = 0 ∧ len ≤ 60)

theorem shape1 (n : Int) (s : ByteArray) (len : Nat) : Shape 1 n s len ↔ (-1000000000000 ≤ n ∧ n ≤ 1000000000000) ∧ s.size = 0 ∧ len = 0 := by simp [Shape]
theorem shape2 (n : Int) (s : ByteArray) (len : Nat) : Shape 2 n s len ↔ AtomP s ∧ n = 0 ∧ len = 0 := by simp [Shape]
theorem shape3 (n : Int) (s : ByteArray) (len : Nat) : Shape 3 n s len ↔ (0 ≤ n ∧ n ≤ 1000000) ∧ s.size = 0 ∧ len = 0 := by simp [Shape]
theorem shape4 (n : Int) (s : ByteArray) (len : Nat) : Shape 4 n s len ↔ n = 0 ∧ s.size = 0 ∧ len ≤ 20 := by simp [Shape]
theorem shape5 (n : Int) (s : ByteArray) (len : Nat) : Shape 5 n s len ↔ n = 0 ∧ s.size = 0 ∧ len ≤ 60 := by simp [Shape]

theorem empty_iff (s : ByteArray) : s.toList.isEmpty = true ↔ s.size = 0 := by
  rw [ByteArray.toList_eq, List.isEmpty_iff, Array.toList_eq_nil_iff]
  exact ⟨fun h => by show s.data.size = 0; rw [h]; rfl, fun h => Array.eq_empty_of_size_eq_zero h⟩
theorem empty_no {s : ByteArray} (h : ¬ s.size = 0) : s.toList.isEmpty = false := by
  cases h' : s.toList.isEmpty with
  | false => rfl
  | true => exact absurd ((empty_iff s).1 h') h

/-- The contract of the check of a shape. -/
def ShapeC (f : Nat) : Prop := ∀ (k n : Int) (s : ByteArray) (a : Option Addr) (len c : Nat) (w : World), s.size ≤ 9223372036854775807 → len ≤ 9223372036854775807 →
  Calls Try.prog f #[.agg #[.int .i64 k, .int .i64 n, .string s, .slice a len c]] w fun e w' => ∃ b : Bool, e = .returned (.bool b) ∧ (b = true ↔ Shape k n s len) ∧ Below w.heap.size w w'

end Go.Proofs.Ytpokheklplcamaa

/- When a term is right in all its storeys, and that the model's walk over it tells it. -/
namespace Go.Proofs.Ytpokheklplcamaa
open Go.RowKit
set_option linter.unusedVariables false

/-- All terms of a list have their shapes, all storeys. -/
def OkL : (d : Nat) → List (Tm d) → Prop
  | 0, _ => True
  | d + 1, ts => ∀ t ∈ ts, Shape t.K t.N t.S t.L.length ∧ OkL d t.L

/-- A term that is right, no deeper than told, of no more than are left. -/
def Right (d : Nat) (k n : Int) (s : ByteArray) (ts : List (Tm d)) (deep left : Int) : Prop :=
  Shape k n s ts.length ∧ OkL d ts ∧ ((1 + depL d ts : Nat) : Int) ≤ deep ∧ ((1 + cntL d ts : Nat) : Int) ≤ left

theorem depL_le {d : Nat} {ts : List (Tm (d + 1))} {m : Nat} : depL (d + 1) ts ≤ m ↔ ∀ t ∈ ts, 1 + depL d t.L ≤ m := by
  constructor
  · intro h t ht
    have := (foldl_max_ge (ts.map fun t => 1 + depL d t.L) 0).2 _ (List.mem_map.2 ⟨t, ht, rfl⟩)
    exact Nat.le_trans this h
  · intro h
    refine foldl_max_le _ 0 m (Nat.zero_le _) fun x hx => ?_
    obtain ⟨t, ht, rfl⟩ := List.mem_map.1 hx
    exact h t ht

/-- The contract of a walk that tells how many may be left. -/
def LookC (f d : Nat) : Prop := ∀ (k n : Int) (s : ByteArray) (l : Value) (ts : List (Tm d)) (deep left : Int) (w : World), RdL d w l ts → WfL d ts → s.size ≤ 9223372036854775807 → -1000 ≤ deep → deep ≤ 1000 → -1000 ≤ left → left ≤ 1000000 →
  Calls Try.prog f #[.agg #[.int .i64 k, .int .i64 n, .string s, l], .int .i64 deep, .int .i64 left] w fun e w' => ∃ r : Int, e = .returned (.int .i64 r) ∧ ((Right d k n s ts deep left ∧ r = left - (1 + cntL d ts : Nat)) ∨ (¬ Right d k n s ts deep left ∧ r = -1)) ∧ Below w.heap.size w w'

theorem right_zero {k n : Int} {s : ByteArray} {ts : List (Tm 0)} {deep left : Int} (h1 : ¬ deep < 1) (h2 : ¬ left < 1) (h3 : Shape k n s ts.length) : Right 0 k n s ts deep left :=
  ⟨h3, trivial, by show ((1 + 0 : Nat) : Int) ≤ deep; omega, by show ((1 + 0 : Nat) : Int) ≤ left; omega⟩

/-- The first j terms of a list are right. -/
def RightP (d : Nat) (ts : List (Tm (d + 1))) (deep left : Int) (j : Nat) : Prop :=
  (∀ i t, i < j → ts[i]? = some t → Shape t.K t.N t.S t.L.length ∧ OkL d t.L ∧ ((1 + depL d t.L : Nat) : Int) ≤ deep - 1) ∧ ((1 + cntP d ts j : Nat) : Int) ≤ left

theorem rightP_all {d : Nat} {k n : Int} {s : ByteArray} {ts : List (Tm (d + 1))} {deep left : Int} {j : Nat} (hd : ¬ deep < 1) (h3 : Shape k n s ts.length) (hj : ts.length ≤ j) (h : RightP d ts deep left j) : Right (d + 1) k n s ts deep left := by
  refine ⟨h3, fun t ht => ?_, ?_, by have := h.2; rw [cntP_all d ts j hj] at this; exact this⟩
  · obtain ⟨i, hi, e⟩ := List.getElem_of_mem ht
    have := h.1 i t (by omega) (by rw [List.getElem?_eq_getElem hi, e])
    exact ⟨this.1, this.2.1⟩
  · have : depL (d + 1) ts ≤ (deep - 1).toNat := depL_le.2 fun t ht => by
      obtain ⟨i, hi, e⟩ := List.getElem_of_mem ht
      have := (h.1 i t (by omega) (by rw [List.getElem?_eq_getElem hi, e])).2.2
      omega
    omega

theorem right_elem {d : Nat} {k n : Int} {s : ByteArray} {ts : List (Tm (d + 1))} {deep left : Int} {j : Nat} {t : Tm (d + 1)} (ht : ts[j]? = some t) (h : Right (d + 1) k n s ts deep left) : Right d t.K t.N t.S t.L (deep - 1) (left - 1 - cntP d ts j) := by
  have hm := List.mem_of_getElem? ht
  obtain ⟨_, h2, h3, h4⟩ := h
  have h5 := h2 t hm
  have h6 : 1 + depL d t.L ≤ depL (d + 1) ts := (depL_le (m := depL (d + 1) ts)).1 (Nat.le_refl _) t hm
  have h7 := cntP_succ d ts j t ht
  have h8 := cntP_le d ts (j + 1)
  exact ⟨h5.1, h5.2, by omega, by omega⟩

theorem rightP_step {d : Nat} {ts : List (Tm (d + 1))} {deep left : Int} {j : Nat} {t : Tm (d + 1)} (ht : ts[j]? = some t) (h : RightP d ts deep left j) (hr : Right d t.K t.N t.S t.L (deep - 1) (left - 1 - cntP d ts j)) : RightP d ts deep left (j + 1) := by
  have h7 := cntP_succ d ts j t ht
  obtain ⟨r1, r2, r3, r4⟩ := hr
  refine ⟨fun i u hi hu => ?_, by omega⟩
  by_cases hij : i < j
  · exact h.1 i u hij hu
  · obtain rfl : i = j := by omega
    rw [ht] at hu
    obtain rfl := Option.some.inj hu
    exact ⟨r1, r2, r3⟩

end Go.Proofs.Ytpokheklplcamaa

/- A region that draws its order, whose operations only read and whose callees leave what was there: one walk. -/
namespace Go.Proofs.Ytpokheklplcamaa
open Go.RowKit

/-- A world behind this one. -/
structure After (w : World) where
  now : World
  bel : Below w.heap.size w now

theorem After.some (w : World) : Nonempty (After w) := ⟨⟨w, Below.refl _ _⟩⟩

theorem wp_region_after {P : Program} {id : Nat} {Q : Exit → Act → World → Prop} {a : Act} {w : World} {l : List Oper} (hm : P.follows .mixedOrders = true) (hB : Region.lexB .any l.toArray = true)
    (h : wpQuiet P l.toArray (fun w' => ∃ n : After w, w' = n.now) (fun a' => ∀ w', (∃ n : After w, w' = n.now) → Q .normal a' w') l a) : (Code.region id l.toArray true).wp P Q a w :=
  wp_region_quiet (C := fun w' => ∃ n : After w, w' = n.now) hm hB ⟨⟨_, (Below.refl _ _).drew⟩, rfl⟩ (by simpa using h)

theorem calls_after {P : Program} {f : FuncId} {args : Array Value} {w : World} {n : After w} {v : Value}
    (h : Calls P f args n.now fun e w' => e = .returned v ∧ Below n.now.heap.size n.now w') : Calls P f args n.now fun e w'' => e = .returned v ∧ ∃ m : After w, w'' = m.now :=
  h.mono fun _ w' ⟨he, hb⟩ => ⟨he, ⟨w', n.bel.trans (hb.mono n.bel.size)⟩, rfl⟩

theorem After.cell {w : World} {a : Addr} {v : Value} (h : w.cell? a = .some v) (n : After w) : n.now.cell? a = .some v := cell_later n.bel h

end Go.Proofs.Ytpokheklplcamaa

/- The law's own measure, copy and comparison of lists of structs. -/
namespace Go.Proofs.Ytpokheklplcamaa
open Go.RowKit
set_option linter.unusedVariables false

/-- The cells of Expr. -/
def ShExpr (vs : List Value) : Prop := ∃ (i0 : Int) (i1 : Int) (s2 : ByteArray) (a3 : Option Addr) (l3 c3 : Nat) (a4 : Option Addr) (l4 c4 : Nat), vs = [.int .i64 i0, .int .i64 i1, .string s2, .slice a3 l3 c3, .slice a4 l4 c4]

set_option maxHeartbeats 1000000 in
theorem szExprS_of {α : Type} (R : World → List Value → α → Prop) (P : α → Prop) (f : α → Nat) (hR : Lasts R) (hS : ∀ w vs x, R w vs x → ShExpr vs) (H : SzEl 19 R P f) : SzLs 44 5 R P f := by
  intro v xs left w hr hw h0 h1
  obtain ⟨a, c, rfl, hel⟩ := hr
  have HE : Hid (∀ (i : Nat) (x : α), xs[i]? = some x → ∃ b o vs, a = some ⟨b, o, none⟩ ∧ vs.length = 5 ∧ (∀ (j : Nat) (u : Value), vs[j]? = some u → w.cell? ⟨b, o + i * 5 + j, none⟩ = some u) ∧ R w vs x) := hel
  have HW : Hid (WfRow P xs) := hw
  have hm : xs.length ≤ 9223372036854775807 := hw.1
  clear hel hw
  obtain ⟨len, hlen⟩ : ∃ len, xs.length = len := ⟨_, rfl⟩
  have HLN : Hid (xs.length = len) := hlen
  rw [hlen] at hm ⊢
  clear hlen
  by_cases hlt : left < len
  · have HF : Hid ((-1 : Int) = lft left (szRow f xs)) := by show _ = _; have := sumP_all f xs; rw [HLN.out] at this; unfold lft; rw [if_neg (by omega)]
    go_enter Try.func44, Try.ntmps44
    go_wp2
    go_ret
    exact ⟨tret1 HF.out, Below.refl _ _⟩
  · go_enter Try.func44, Try.ntmps44
    go_wp2_with fail
    go_loopw [1, 5] (fun x i wr => ∃ k : Nat, k ≤ len ∧ i = .int .i64 k ∧ x = .int .i64 (left - len - sumP f xs k) ∧ 0 ≤ left - (len : Int) - sumP f xs k ∧ Below w.heap.size w wr) (fun _ i _ => len - (intOf i).toNat)
    case atStart => exact ⟨0, Nat.zero_le _, rfl, by simp [sumP], by simp [sumP]; omega, Below.refl _ _⟩
    case round =>
      obtain ⟨k, hk, rfl, rfl, hx0, hb⟩ := hrel
      obtain ⟨x, hx⟩ : ∃ x, left - (len : Int) - sumP f xs k = x := ⟨_, rfl⟩
      have HX : Hid (left - (len : Int) - sumP f xs k = x) := hx
      rw [hx] at hx0 ⊢
      have hx1 : x ≤ 1048576 := by omega
      clear hx
      by_cases hkl : k < len
      · obtain ⟨t, ht⟩ : ∃ t, xs[k]? = some t := ⟨_, List.getElem?_eq_getElem (by rw [HLN.out]; exact hkl)⟩
        obtain ⟨b, o, vs, rfl, hvl, hcell, hrt⟩ := HE.out k t ht
        obtain ⟨i0, i1, s2, a3, l3, c3, a4, l4, c4, rfl⟩ := hS _ _ _ hrt
        have hpt := HW.out.2 t (List.mem_of_getElem? ht)
        have f0 : wr.cell? ⟨b, o + k * 5, none⟩ = some _ := cell_later hb (hcell 0 _ rfl)
        have f1 : wr.cell? ⟨b, o + k * 5 + 1, none⟩ = some _ := cell_later hb (hcell 1 _ rfl)
        have f2 : wr.cell? ⟨b, o + k * 5 + 2, none⟩ = some _ := cell_later hb (hcell 2 _ rfl)
        have f3 : wr.cell? ⟨b, o + k * 5 + 3, none⟩ = some _ := cell_later hb (hcell 3 _ rfl)
        have f4 : wr.cell? ⟨b, o + k * 5 + 4, none⟩ = some _ := cell_later hb (hcell 4 _ rfl)
        have hC := H _ t x wr (hR _ _ _ _ hrt hb) hpt hx0 hx1
        have hstep := sumP_succ f xs k t ht
        obtain ⟨y, hy⟩ : ∃ y, lft x (f t) = y := ⟨_, rfl⟩
        rw [hy] at hC
        clear hcell hrt hpt hvl
        by_cases hneg : y < 0
        · have HF : Hid ((-1 : Int) = lft left (szRow f xs)) := by
            have h1 := sumP_all f xs
            have h2 := sumP_le f xs (k + 1)
            have h3 := HX.out
            have h5 := HLN.out
            have h6 : szRow f xs = xs.length + (xs.map f).sum := rfl
            unfold lft at hy
            show _ = _
            by_cases h4 : ((f t : Nat) : Int) ≤ x
            · rw [if_pos h4] at hy; omega
            · unfold lft; rw [if_neg (by omega)]
          clear hy hstep HX
          go_wp2_with fail
          refine hC.mono ?_
          clear hC
          rintro e w1 ⟨rfl, hb1⟩
          have hb2 : Below w.heap.size w w1 := hb.trans (hb1.mono hb.size)
          clear hb1 hb f0 f1 f2 f3 f4
          go_wp2
          go_ret
          exact ⟨tret1 HF.out, hb2⟩
        · have HY : Hid (y = left - (len : Int) - sumP f xs (k + 1) ∧ 0 ≤ left - (len : Int) - sumP f xs (k + 1)) := by
            have h3 := HX.out
            unfold lft at hy
            by_cases h4 : ((f t : Nat) : Int) ≤ x
            · rw [if_pos h4] at hy; show _ ∧ _; omega
            · rw [if_neg h4] at hy; omega
          clear hy hstep HX
          go_wp2_with fail
          refine hC.mono ?_
          clear hC
          rintro e w1 ⟨rfl, hb1⟩
          have hb2 : Below w.heap.size w w1 := hb.trans (hb1.mono hb.size)
          clear hb1 hb f0 f1 f2 f3 f4
          go_wp2
          go_roundw
          case rel => exact ⟨k + 1, by omega, by go_num, by rw [HY.out.1], HY.out.2, hb2⟩
          case measure => simp [intOf]; omega
      · have HF : Hid (x = lft left (szRow f xs)) := by
          have h1 := sumP_all f xs
          have h3 := HX.out
          have h5 := HLN.out
          have hk' : k = xs.length := by omega
          rw [hk'] at h3
          unfold lft; rw [if_pos (by omega)]; show _ = _; omega
        clear HX
        go_wp2
        go_ret
        exact ⟨tret1 HF.out, hb⟩

theorem Try.infoExpr : (Try.prog.info? 27).map (fun i => (i.zero, i.size, i.bytes)) = some (some (.agg #[.int .i64 0, .int .i64 0, .string ⟨#[]⟩, .slice none 0 0, .slice none 0 0]), 5, 80) := by kernel_rfl

set_option maxHeartbeats 2000000 in
theorem toExprS_of {α : Type} (R : World → List Value → α → Prop) (O : World → List Value → α → List Nat → Prop) (P : α → Prop) (f : α → Nat) (hR : Lasts R) (hO : LastsO O) (hS : ∀ w vs x, R w vs x → ShExpr vs) (hSO : ∀ w vs x fp, O w vs x fp → ShExpr vs) (H : ToEl 20 R O P f) : ToLs 46 5 27 R O P f := by
  obtain ⟨i0, hi, hz0, hz1, hz2⟩ := info_parts Try.infoExpr
  intro v xs w hr hw hz
  obtain ⟨a, c, rfl, hel⟩ := hr
  have HE : Hid (∀ (i : Nat) (x : α), xs[i]? = some x → ∃ b o vs, a = some ⟨b, o, none⟩ ∧ vs.length = 5 ∧ (∀ (j : Nat) (u : Value), vs[j]? = some u → w.cell? ⟨b, o + i * 5 + j, none⟩ = some u) ∧ R w vs x) := hel
  have HW : Hid (WfRow P xs) := hw
  obtain ⟨len, hlen⟩ : ∃ len, xs.length = len := ⟨_, rfl⟩
  have HLN : Hid (xs.length = len) := hlen
  have hm : len ≤ 1048576 := by have := sumP_all f xs; omega
  have HZ : Hid (szRow f xs ≤ 1048576) := hz
  rw [hlen]
  clear hlen hel hw hz
  go_enter Try.func46, Try.ntmps46
  go_wp2_with (at_make; refine wpList_make_full _ rfl _ _ 24 rfl w.heap.size 27 i0 _ 5 Try.underlying24 hi hz0 hz1 _ _ _ _ len rfl rfl rfl rfl (by rw [hz2]; omega) (by unfold maxLen; omega) (Nat.le_refl _) ?_)
  intro w1 hown hgrow
  have hbel : Below w.heap.size w w1 := (Below.refl _ _).grown hgrow (Nat.le_refl _) (fun _ h => by cases h)
  obtain ⟨cur0, hc0, hs0⟩ : ∃ cur, w1.heap[w.heap.size]? = some (.cells cur 27 (0, 0)) ∧ cur.size = len * 5 := by
    rcases hown.2 with ⟨h', _⟩ | ⟨g', cap', cur, h', _, hg, _, _, hs, _⟩
    · simp at h'
    · simp only [Value.slice.injEq, Option.some.injEq, Addr.mk.injEq, and_true, true_and] at h'
      obtain ⟨rfl, rfl⟩ := h'
      exact ⟨cur, hg, hs⟩
  clear hown hgrow
  go_wp2
  go_loopw [4] (fun i wr => ∃ (k : Nat) (cur : Array Value) (fps : List (List Nat)), k ≤ len ∧ i = .int .i64 k ∧ wr.heap[w.heap.size]? = some (.cells cur 27 (0, 0)) ∧ cur.size = len * 5 ∧ fps.length = k ∧ fps.flatten.Nodup ∧ (∀ g ∈ fps.flatten, w.heap.size < g ∧ g < wr.heap.size) ∧ Below w.heap.size w wr ∧ Hid (DoneRow 5 O xs k wr cur fps)) (fun i _ => len - (intOf i).toNat)
  case atStart => exact ⟨0, cur0, [], Nat.zero_le _, rfl, hc0, hs0, rfl, by simp, by simp, hbel, fun i t hi => by omega⟩
  case round =>
    obtain ⟨k, cur, fps, hk, rfl, hh, hcs, hfl, hnd, hfr, hb, HD⟩ := hrel
    have HH : Hid (wr.heap[w.heap.size]? = some (.cells cur 27 (0, 0))) := hh
    have HFL : Hid (fps.length = k) := hfl
    have HCS : Hid (cur.size = len * 5) := hcs
    have HND : Hid (fps.flatten.Nodup ∧ (∀ g ∈ fps.flatten, w.heap.size < g ∧ g < wr.heap.size) ∧ Below w.heap.size w wr) := ⟨hnd, hfr, hb⟩
    have hwz : w.heap.size < wr.heap.size := Nat.lt_of_not_le fun hn => by simp [Array.getElem?_eq_none hn] at hh
    clear hc0 hs0 hbel hh hfl hcs hnd hfr
    by_cases hkl : k < len
    · obtain ⟨t, ht⟩ : ∃ t, xs[k]? = some t := ⟨_, List.getElem?_eq_getElem (by rw [HLN.out]; exact hkl)⟩
      obtain ⟨b, o, vs, rfl, hvl, hcell, hrt⟩ := HE.out k t ht
      obtain ⟨i0, i1, s2, a3, l3, c3, a4, l4, c4, rfl⟩ := hS _ _ _ hrt
      have hpt := HW.out.2 t (List.mem_of_getElem? ht)
      have f0 : wr.cell? ⟨b, o + k * 5, none⟩ = some _ := cell_later hb (hcell 0 _ rfl)
      have f1 : wr.cell? ⟨b, o + k * 5 + 1, none⟩ = some _ := cell_later hb (hcell 1 _ rfl)
      have f2 : wr.cell? ⟨b, o + k * 5 + 2, none⟩ = some _ := cell_later hb (hcell 2 _ rfl)
      have f3 : wr.cell? ⟨b, o + k * 5 + 3, none⟩ = some _ := cell_later hb (hcell 3 _ rfl)
      have f4 : wr.cell? ⟨b, o + k * 5 + 4, none⟩ = some _ := cell_later hb (hcell 4 _ rfl)
      have hzt : f t ≤ 1048576 := Nat.le_trans (szRow_mem ht) HZ.out
      have hC := H _ t wr (hR _ _ _ _ hrt hb) hpt hzt
      have HTT : Hid (xs[k]? = some t) := ht
      clear hcell hrt hpt hvl hb ht
      go_wp2_with fail
      refine hC.mono ?_
      clear hC
      rintro e w2 ⟨vs2, fp, rfl, hown, hfr2, hb2⟩
      have hh2 : w2.heap[w.heap.size]? = some (.cells cur 27 (0, 0)) := (hb2.block _ hwz).trans HH.out
      have hc4 : ∀ j, j < 5 → ∃ v, w2.cell? ⟨w.heap.size, k * 5 + j, none⟩ = some v := fun j hj => by
        rw [cell_of_row w2 _ _ _ _ _ hh2]
        exact ⟨_, Array.getElem?_eq_getElem (by have := HCS.out; omega)⟩
      obtain ⟨v0, c0'⟩ := hc4 0 (by omega)
      obtain ⟨v1, c1'⟩ := hc4 1 (by omega)
      obtain ⟨v2, c2'⟩ := hc4 2 (by omega)
      obtain ⟨v3, c3'⟩ := hc4 3 (by omega)
      obtain ⟨v4, c4'⟩ := hc4 4 (by omega)
      rw [Nat.add_zero] at c0'
      have z0 : w2.frozen? ⟨w.heap.size, k * 5, none⟩ = false := frozen_of_row w2 _ _ _ _ hh2
      have z1 : w2.frozen? ⟨w.heap.size, k * 5 + 1, none⟩ = false := frozen_of_row w2 _ _ _ _ hh2
      have z2 : w2.frozen? ⟨w.heap.size, k * 5 + 2, none⟩ = false := frozen_of_row w2 _ _ _ _ hh2
      have z3 : w2.frozen? ⟨w.heap.size, k * 5 + 3, none⟩ = false := frozen_of_row w2 _ _ _ _ hh2
      have z4 : w2.frozen? ⟨w.heap.size, k * 5 + 4, none⟩ = false := frozen_of_row w2 _ _ _ _ hh2
      obtain ⟨yi0, yi1, ys2, ya3, yl3, yc3, ya4, yl4, yc4, rfl⟩ := hSO _ _ _ _ hown
      obtain ⟨S1, S2, S3, S4, S5, S6, S7⟩ := row_step hO hkl HCS.out HFL.out HND.out.1 HND.out.2.1 hwz HND.out.2.2 hb2 HD.out HTT.out rfl hown hfr2 hh2
      have HS : Hid ((_ ∧ _ ∧ _ ∧ _ ∧ _ ∧ _) ∧ _) := ⟨⟨S1, S2, S3, S4, S5, S6⟩, S7⟩
      clear S1 S2 S3 S4 S5 S6 S7 hc4 hh2 f0 f1 f2 f3 f4 hown hfr2 hb2
      go_wp2
      go_roundw
      case rel => exact ⟨k + 1, _, _, by omega, by go_num, HS.out.1.1, HS.out.1.2.1, HS.out.1.2.2.1, HS.out.1.2.2.2.1, HS.out.1.2.2.2.2.1, HS.out.1.2.2.2.2.2, HS.out.2⟩
      case measure => simp [intOf]; omega
    · obtain rfl : k = len := by omega
      have HO := row_done (T := 27) (w := w) HLN.out HFL.out HND.out.1 HND.out.2.1 hwz HH.out HD.out
      have HFF : Hid _ := HO
      clear HO
      go_wp2
      go_ret
      exact ⟨_, _, _, _, rfl, HFF.out.1, HFF.out.2, hb⟩

set_option maxHeartbeats 1000000 in
theorem eqExprS_of {α : Type} (R : World → List Value → α → Prop) (P : α → Prop) (hR : Lasts R) (hS : ∀ w vs x, R w vs x → ShExpr vs) (H : EqEl 22 R P) : EqLs 48 5 R P := by
  intro v1 v2 xs w h1 h2 hw
  obtain ⟨a1, c1, rfl, e1⟩ := h1
  obtain ⟨a2, c2, rfl, e2⟩ := h2
  have HE1 : Hid (∀ (i : Nat) (x : α), xs[i]? = some x → ∃ b o vs, a1 = some ⟨b, o, none⟩ ∧ vs.length = 5 ∧ (∀ (j : Nat) (u : Value), vs[j]? = some u → w.cell? ⟨b, o + i * 5 + j, none⟩ = some u) ∧ R w vs x) := e1
  have HE2 : Hid (∀ (i : Nat) (x : α), xs[i]? = some x → ∃ b o vs, a2 = some ⟨b, o, none⟩ ∧ vs.length = 5 ∧ (∀ (j : Nat) (u : Value), vs[j]? = some u → w.cell? ⟨b, o + i * 5 + j, none⟩ = some u) ∧ R w vs x) := e2
  have HW : Hid (WfRow P xs) := hw
  have hm : xs.length ≤ 9223372036854775807 := hw.1
  obtain ⟨len, hlen⟩ : ∃ len, xs.length = len := ⟨_, rfl⟩
  have HLN : Hid (xs.length = len) := hlen
  rw [hlen] at hm ⊢
  clear hlen e1 e2 hw
  go_enter Try.func48, Try.ntmps48
  go_wp2_with fail
  go_loopw [5] (fun i wr => ∃ k : Nat, k ≤ len ∧ i = .int .i64 k ∧ Below w.heap.size w wr) (fun i _ => len - (intOf i).toNat)
  case atStart => exact ⟨0, Nat.zero_le _, rfl, Below.refl _ _⟩
  case round =>
    obtain ⟨k, hk, rfl, hb⟩ := hrel
    by_cases hkl : k < len
    · obtain ⟨t, ht⟩ : ∃ t, xs[k]? = some t := ⟨_, List.getElem?_eq_getElem (by rw [HLN.out]; exact hkl)⟩
      obtain ⟨b, o, vs, rfl, hvl, hcell, hr1⟩ := HE1.out k t ht
      obtain ⟨b2, o2, vs2, rfl, hvl2, hcell2, hr2⟩ := HE2.out k t ht
      obtain ⟨i0, i1, s2, a3, l3, c3, a4, l4, c4, rfl⟩ := hS _ _ _ hr1
      obtain ⟨yi0, yi1, ys2, ya3, yl3, yc3, ya4, yl4, yc4, rfl⟩ := hS _ _ _ hr2
      have hpt := HW.out.2 t (List.mem_of_getElem? ht)
      have f0 : wr.cell? ⟨b, o + k * 5, none⟩ = some _ := cell_later hb (hcell 0 _ rfl)
      have f1 : wr.cell? ⟨b, o + k * 5 + 1, none⟩ = some _ := cell_later hb (hcell 1 _ rfl)
      have f2 : wr.cell? ⟨b, o + k * 5 + 2, none⟩ = some _ := cell_later hb (hcell 2 _ rfl)
      have f3 : wr.cell? ⟨b, o + k * 5 + 3, none⟩ = some _ := cell_later hb (hcell 3 _ rfl)
      have f4 : wr.cell? ⟨b, o + k * 5 + 4, none⟩ = some _ := cell_later hb (hcell 4 _ rfl)
      have g0 : wr.cell? ⟨b2, o2 + k * 5, none⟩ = some _ := cell_later hb (hcell2 0 _ rfl)
      have g1 : wr.cell? ⟨b2, o2 + k * 5 + 1, none⟩ = some _ := cell_later hb (hcell2 1 _ rfl)
      have g2 : wr.cell? ⟨b2, o2 + k * 5 + 2, none⟩ = some _ := cell_later hb (hcell2 2 _ rfl)
      have g3 : wr.cell? ⟨b2, o2 + k * 5 + 3, none⟩ = some _ := cell_later hb (hcell2 3 _ rfl)
      have g4 : wr.cell? ⟨b2, o2 + k * 5 + 4, none⟩ = some _ := cell_later hb (hcell2 4 _ rfl)
      have hkl' : (k : Int) < (len : Int) := by omega
      have HC : Hid (∀ W : World, Below wr.heap.size wr W → _) := fun W hW => H _ _ t W (hR _ _ _ _ (hR _ _ _ _ hr1 hb) hW) (hR _ _ _ _ (hR _ _ _ _ hr2 hb) hW) hpt
      clear hcell hcell2 hr1 hr2 hpt hvl hvl2
      have hn0 := After.some wr
      have p0 := After.cell f0
      have p1 := After.cell f1
      have p2 := After.cell f2
      have p3 := After.cell f3
      have p4 := After.cell f4
      have q0 := After.cell g0
      have q1 := After.cell g1
      have q2 := After.cell g2
      have q3 := After.cell g3
      have q4 := After.cell g4
      go_wp2_with fail
      refine wp_region_after (by kernel_rfl) (by kernel_rfl) ?_
      repeat (go_big_quiet_step ((go_at_call 22; exact calls_after (HC.out _ (After.bel _)))))
      refine wpQuiet_nil ?_
      rintro _ ⟨nq, rfl⟩
      have hb2 : Below w.heap.size w nq.now := hb.trans (nq.bel.mono hb.size)
      clear hb f0 f1 f2 f3 f4 g0 g1 g2 g3 g4 p0 q0 p1 q1 p2 q2 p3 q3 p4 q4
      go_wp2
      go_roundw
      case rel => exact ⟨k + 1, by omega, by go_num, hb2⟩
      case measure => simp [intOf]; omega
    · go_wp2
      go_ret
      exact ⟨rfl, hb⟩

end Go.Proofs.Ytpokheklplcamaa

/- How a list of terms that came in is read: to whatever depth. -/
namespace Go.Proofs.Ytpokheklplcamaa
open Go.RowKit Go.ChangeShapes Go.WideShapes Go.Joins Go.Deep

theorem cells4 {w : World} {base : Nat} {a : Addr} {cs : List Value} (h : w.cells? base a 4 = some cs) :
    ∃ c0 c1 c2 c3, cs = [c0, c1, c2, c3] ∧ w.cell? (a.add 0) = some c0 ∧ w.cell? (a.add 1) = some c1 ∧ w.cell? (a.add 2) = some c2 ∧ w.cell? (a.add 3) = some c3 := by
  unfold World.cells? at h
  split at h
  · simp only [show List.range 4 = [0, 1, 2, 3] from rfl, List.mapM_cons, List.mapM_nil, Option.bind_eq_bind, Option.pure_def] at h
    obtain ⟨c0, h0, h⟩ := Option.bind_eq_some_iff.1 h
    obtain ⟨r1, h, e0⟩ := Option.bind_eq_some_iff.1 h
    obtain ⟨c1, h1, h⟩ := Option.bind_eq_some_iff.1 h
    obtain ⟨r2, h, e1⟩ := Option.bind_eq_some_iff.1 h
    obtain ⟨c2, h2, h⟩ := Option.bind_eq_some_iff.1 h
    obtain ⟨r3, h, e2⟩ := Option.bind_eq_some_iff.1 h
    obtain ⟨c3, h3, h⟩ := Option.bind_eq_some_iff.1 h
    obtain ⟨r4, h, e3⟩ := Option.bind_eq_some_iff.1 h
    cases h
    cases e3
    cases e2
    cases e1
    cases e0
    exact ⟨c0, c1, c2, c3, rfl, h0, h1, h2, h3⟩
  · cases h

theorem Try.cells3 : Try.prog.cellsOf 3 = 1 := by kernel_rfl
theorem Try.cells9 : Try.prog.cellsOf 9 = 1 := by kernel_rfl
end Go.Proofs.Ytpokheklplcamaa
