/- Lists of structs of whatever kind, by the cells of their elements: as they are read, and as they lie in memory of one's own. -/
import Derived.Test.YtkfpfijblflcfaaTo
namespace Go.Proofs.Ytkfpfijblflcfaa
open Go.RowKit
set_option linter.unusedVariables false

/-- A value that is a slice of what xs tell, k cells each; R says what the cells of one tell. -/
def RowOf {α : Type} (k : Nat) (R : World → List Value → α → Prop) (w : World) (v : Value) (xs : List α) : Prop :=
  ∃ a c, v = .slice a xs.length c ∧ ∀ (i : Nat) (x : α), xs[i]? = some x → ∃ b o vs, a = some ⟨b, o, none⟩ ∧ vs.length = k ∧ (∀ (j : Nat) (u : Value), vs[j]? = some u → w.cell? ⟨b, o + i * k + j, none⟩ = some u) ∧ R w vs x

/-- What is told of a value stays told as long as what was there lies as it lay. -/
def Lasts {α : Type} (R : World → List Value → α → Prop) : Prop := ∀ w w' vs x, R w vs x → Below w.heap.size w w' → R w' vs x

theorem RowOf.later {α : Type} {k : Nat} {R : World → List Value → α → Prop} (hR : Lasts R) {w w' : World} {v : Value} {xs : List α} (h : RowOf k R w v xs) (hb : Below w.heap.size w w') : RowOf k R w' v xs := by
  obtain ⟨a, c, rfl, h1⟩ := h
  refine ⟨a, c, rfl, fun i x hx => ?_⟩
  obtain ⟨b, o, vs, h2, h3, h4, h5⟩ := h1 i x hx
  exact ⟨b, o, vs, h2, h3, fun j u hu => cell_later hb (h4 j u hu), hR _ _ _ _ h5 hb⟩

theorem RowOf.slice {α : Type} {k : Nat} {R : World → List Value → α → Prop} {w : World} {v : Value} {xs : List α} (h : RowOf k R w v xs) : ∃ a c, v = .slice a xs.length c := by
  obtain ⟨a, c, e, _⟩ := h
  exact ⟨a, c, e⟩

def WfRow {α : Type} (P : α → Prop) (xs : List α) : Prop := xs.length ≤ 9223372036854775807 ∧ ∀ x ∈ xs, P x

def sumP {α : Type} (f : α → Nat) (xs : List α) (i : Nat) : Nat := ((xs.take i).map f).sum
def szRow {α : Type} (f : α → Nat) (xs : List α) : Nat := xs.length + (xs.map f).sum

theorem sumP_succ {α : Type} (f : α → Nat) (xs : List α) (i : Nat) (x : α) (h : xs[i]? = some x) : sumP f xs (i + 1) = sumP f xs i + f x := by
  have hl := (List.getElem?_eq_some_iff.1 h).1
  have he := (List.getElem?_eq_some_iff.1 h).2
  unfold sumP
  rw [List.take_succ_eq_append_getElem hl, he]
  simp
theorem sumP_le {α : Type} (f : α → Nat) (xs : List α) (i : Nat) : sumP f xs i ≤ (xs.map f).sum := by
  unfold sumP
  conv => rhs; rw [← List.take_append_drop i xs]
  rw [List.map_append, List.sum_append]
  omega
theorem sumP_all {α : Type} (f : α → Nat) (xs : List α) : xs.length + sumP f xs xs.length = szRow f xs := by
  unfold sumP szRow
  rw [List.take_length]
theorem szRow_mem {α : Type} {f : α → Nat} {xs : List α} {i : Nat} {x : α} (h : xs[i]? = some x) : f x ≤ szRow f xs := by
  have h1 := sumP_succ f xs i x h
  have h2 := sumP_le f xs (i + 1)
  unfold szRow
  omega

/-- Cells of a row written anew, one after the other. -/
def putL (cur : Array Value) (o : Nat) : List Value → Array Value
  | [] => cur
  | v :: vs => putL (cur.setIfInBounds o v) (o + 1) vs
def setL (w : World) (g o : Nat) : List Value → World
  | [] => w
  | v :: vs => setL (w.setCell ⟨g, o, none⟩ v) g (o + 1) vs

theorem putL_size : ∀ (vs : List Value) (cur : Array Value) (o : Nat), (putL cur o vs).size = cur.size := by
  intro vs
  induction vs with
  | nil => intro cur o; rfl
  | cons v vs ih => intro cur o; rw [putL, ih]; simp
theorem putL_other : ∀ (vs : List Value) (cur : Array Value) (o j : Nat), j < o ∨ o + vs.length ≤ j → (putL cur o vs)[j]? = cur[j]? := by
  intro vs
  induction vs with
  | nil => intro cur o j _; rfl
  | cons v vs ih => intro cur o j h; simp only [List.length_cons] at h; rw [putL, ih _ _ _ (by omega), Array.getElem?_setIfInBounds_ne (by omega)]
theorem putL_at : ∀ (vs : List Value) (cur : Array Value) (o i : Nat) (u : Value), o + vs.length ≤ cur.size → vs[i]? = some u → (putL cur o vs)[o + i]? = some u := by
  intro vs
  induction vs with
  | nil => intro cur o i u _ h; simp at h
  | cons v vs ih =>
    intro cur o i u hs h
    simp only [List.length_cons] at hs
    rw [putL]
    cases i with
    | zero =>
      simp only [List.getElem?_cons_zero, Option.some.injEq] at h
      rw [putL_other _ _ _ _ (by omega), Nat.add_zero, Array.getElem?_setIfInBounds_self, if_pos (by omega), h]
    | succ i =>
      simp only [List.getElem?_cons_succ] at h
      have := ih (cur.setIfInBounds o v) (o + 1) i u (by simp; omega) h
      rw [show o + (i + 1) = o + 1 + i by omega]
      exact this
theorem setL_row : ∀ (vs : List Value) (w : World) (g o : Nat) (cur : Array Value) (T : TypeId), w.heap[g]? = some (.cells cur T (0, 0)) → (setL w g o vs).heap[g]? = some (.cells (putL cur o vs) T (0, 0)) := by
  intro vs
  induction vs with
  | nil => intro w g o cur T h; exact h
  | cons v vs ih => intro w g o cur T h; exact ih _ _ _ _ _ (heap_setCell_same w g _ _ _ _ h)
theorem setL_other : ∀ (vs : List Value) (w : World) (g o j : Nat), j ≠ g → (setL w g o vs).heap[j]? = w.heap[j]? := by
  intro vs
  induction vs with
  | nil => intro w g o j _; rfl
  | cons v vs ih => intro w g o j h; rw [setL, ih _ _ _ _ h, heap_setCell_other _ _ _ _ (by simp; omega)]
theorem setL_size : ∀ (vs : List Value) (w : World) (g o : Nat), (setL w g o vs).heap.size = w.heap.size := by
  intro vs
  induction vs with
  | nil => intro w g o; rfl
  | cons v vs ih => intro w g o; rw [setL, ih]; simp
theorem setL_below : ∀ (vs : List Value) (w : World) (g o B : Nat), B ≤ g → Below B w (setL w g o vs) := by
  intro vs
  induction vs with
  | nil => intro w g o B _; exact Below.refl _ _
  | cons v vs ih => intro w g o B h; exact ((Below.refl B w).setCell (p := ⟨g, o, none⟩) h v).trans (ih _ _ _ _ h)

/-- The same in blocks of one's own. -/
def OwnRow {α : Type} (k : Nat) (T : TypeId) (O : World → List Value → α → List Nat → Prop) (w : World) (v : Value) (xs : List α) (fp : List Nat) : Prop :=
  (xs = [] ∧ fp = [] ∧ ∃ a c, v = .slice a 0 c) ∨
    ∃ (g c : Nat) (cur : Array Value) (fps : List (List Nat)), v = .slice (some ⟨g, 0, none⟩) xs.length c ∧ w.heap[g]? = some (.cells cur T (0, 0)) ∧ (fps.length = xs.length ∧ xs.length ≤ c) ∧ fp = g :: fps.flatten ∧
      ∀ (i : Nat) (x : α), xs[i]? = some x → ∃ vs f, fps[i]? = some f ∧ vs.length = k ∧ (∀ (j : Nat) (u : Value), vs[j]? = some u → cur[i * k + j]? = some u) ∧ O w vs x f

def LastsO {α : Type} (O : World → List Value → α → List Nat → Prop) : Prop := ∀ w w' vs x f, O w vs x f → (∀ g ∈ f, w'.heap[g]? = w.heap[g]?) → O w' vs x f
def Reads {α : Type} (O : World → List Value → α → List Nat → Prop) (R : World → List Value → α → Prop) : Prop := ∀ w vs x f, O w vs x f → R w vs x

theorem OwnRow.frame {α : Type} {k : Nat} {T : TypeId} {O : World → List Value → α → List Nat → Prop} (hO : LastsO O) {w w' : World} {v : Value} {xs : List α} {fp : List Nat} (h : OwnRow k T O w v xs fp) (hh : ∀ g ∈ fp, w'.heap[g]? = w.heap[g]?) : OwnRow k T O w' v xs fp := by
  rcases h with h | ⟨g, c, cur, fps, h1, h2, h3, rfl, h4⟩
  · exact .inl h
  · refine .inr ⟨g, c, cur, fps, h1, by rw [hh g (List.mem_cons_self ..)]; exact h2, h3, rfl, fun i x hx => ?_⟩
    obtain ⟨vs, f, e1, e2, e3, e4⟩ := h4 i x hx
    exact ⟨vs, f, e1, e2, e3, hO _ _ _ _ _ e4 fun j hj => hh j (List.mem_cons_of_mem _ (List.mem_flatten.2 ⟨f, List.mem_of_getElem? e1, hj⟩))⟩

theorem OwnRow.rd {α : Type} {k : Nat} {T : TypeId} {O : World → List Value → α → List Nat → Prop} {R : World → List Value → α → Prop} (hO : Reads O R) {w : World} {v : Value} {xs : List α} {fp : List Nat} (h : OwnRow k T O w v xs fp) : RowOf k R w v xs := by
  rcases h with ⟨rfl, _, a, c, rfl⟩ | ⟨g, c, cur, fps, rfl, h2, h3, rfl, h4⟩
  · exact ⟨a, c, rfl, fun i x hx => by simp at hx⟩
  · refine ⟨_, c, rfl, fun i x hx => ?_⟩
    obtain ⟨vs, f, e1, e2, e3, e4⟩ := h4 i x hx
    refine ⟨g, 0, vs, rfl, e2, fun j u hu => ?_, hO _ _ _ _ e4⟩
    rw [Nat.zero_add, cell_of_row w _ _ _ _ _ h2]
    exact e3 j u hu

/-- The first n of a list lie copied in the row at B. -/
def DoneRow {α : Type} (k : Nat) (O : World → List Value → α → List Nat → Prop) (xs : List α) (n : Nat) (w : World) (cur : Array Value) (fps : List (List Nat)) : Prop :=
  ∀ (i : Nat) (x : α), i < n → xs[i]? = some x → ∃ vs f, fps[i]? = some f ∧ vs.length = k ∧ (∀ (j : Nat) (u : Value), vs[j]? = some u → cur[i * k + j]? = some u) ∧ O w vs x f

theorem row_step {α : Type} {k : Nat} {T : TypeId} {O : World → List Value → α → List Nat → Prop} (hO : LastsO O) {xs : List α} {B len n : Nat} {w wr w2 : World} {cur : Array Value} {fps : List (List Nat)} {x : α} {vs : List Value} {fp : List Nat}
    (hk : n < len) (hcs : cur.size = len * k) (hfl : fps.length = n) (hnd : fps.flatten.Nodup) (hfr : ∀ g ∈ fps.flatten, B < g ∧ g < wr.heap.size) (hwz : B < wr.heap.size) (hb : Below B w wr) (hb2 : Below wr.heap.size wr w2)
    (hdone : DoneRow k O xs n wr cur fps) (ht : xs[n]? = some x) (hvs : vs.length = k) (hown : O w2 vs x fp) (hfr2 : Fresh wr.heap.size w2 fp) (hrow : w2.heap[B]? = some (.cells cur T (0, 0))) :
    (setL w2 B (n * k) vs).heap[B]? = some (.cells (putL cur (n * k) vs) T (0, 0)) ∧ (putL cur (n * k) vs).size = len * k ∧ (fps ++ [fp]).length = n + 1 ∧ (fps ++ [fp]).flatten.Nodup ∧ (∀ g ∈ (fps ++ [fp]).flatten, B < g ∧ g < (setL w2 B (n * k) vs).heap.size) ∧ Below B w (setL w2 B (n * k) vs) ∧
      DoneRow k O xs (n + 1) (setL w2 B (n * k) vs) (putL cur (n * k) vs) (fps ++ [fp]) := by
  have hmem : ∀ g ∈ fps.flatten, g < wr.heap.size := fun g hg => (hfr g hg).2
  have hroom : n * k + vs.length ≤ cur.size := by
    have h1 : (n + 1) * k ≤ len * k := Nat.mul_le_mul_right k hk
    rw [Nat.add_mul, Nat.one_mul] at h1
    omega
  refine ⟨setL_row _ _ _ _ _ _ hrow, by rw [putL_size, hcs], by simp [hfl], ?_, ?_, (hb.trans (hb2.mono (by omega))).trans (setL_below _ _ _ _ _ (Nat.le_refl _)), ?_⟩
  · rw [List.flatten_append, List.flatten_singleton, List.nodup_append]
    exact ⟨hnd, hfr2.1, fun a ha b hb e => by have := hmem a ha; have := (hfr2.2 b hb).1; omega⟩
  · intro g hg
    rw [List.flatten_append, List.flatten_singleton, List.mem_append] at hg
    rw [setL_size]
    rcases hg with hg | hg
    · have := hfr g hg; have := hb2.size; omega
    · have := hfr2.2 g hg; omega
  · intro i u hi hu
    by_cases hik : i < n
    · obtain ⟨vs', f, e1, e2, e3, e4⟩ := hdone i u hik hu
      refine ⟨vs', f, by rw [List.getElem?_append_left (by omega)]; exact e1, e2, fun j y hy => ?_, hO _ _ _ _ _ e4 fun g hg => ?_⟩
      · have hj := (List.getElem?_eq_some_iff.1 hy).1
        have h1 : (i + 1) * k ≤ n * k := Nat.mul_le_mul_right k hik
        rw [Nat.add_mul, Nat.one_mul] at h1
        rw [putL_other _ _ _ _ (by omega)]
        exact e3 j y hy
      · have hgf : g ∈ fps.flatten := List.mem_flatten.2 ⟨f, List.mem_of_getElem? e1, hg⟩
        have := hfr g hgf
        rw [setL_other _ _ _ _ _ (by omega), hb2.block g (by omega)]
    · obtain rfl : i = n := by omega
      rw [ht] at hu
      obtain rfl := Option.some.inj hu
      refine ⟨vs, fp, by rw [List.getElem?_append_right (by omega), hfl]; simp, hvs, fun j y hy => putL_at _ _ _ _ _ hroom hy, hO _ _ _ _ _ hown fun g hg => ?_⟩
      have := (hfr2.2 g hg).1
      exact setL_other _ _ _ _ _ (by omega)

theorem row_done {α : Type} {k : Nat} {T : TypeId} {O : World → List Value → α → List Nat → Prop} {xs : List α} {B len : Nat} {w wr : World} {cur : Array Value} {fps : List (List Nat)} (hl : xs.length = len) (hfl : fps.length = len) (hnd : fps.flatten.Nodup) (hfr : ∀ g ∈ fps.flatten, B < g ∧ g < wr.heap.size) (hwz : B < wr.heap.size) (hrow : wr.heap[B]? = some (.cells cur T (0, 0))) (hd : DoneRow k O xs len wr cur fps) :
    OwnRow k T O wr (.slice (some ⟨B, 0, none⟩) len len) xs (B :: fps.flatten) ∧ Fresh B wr (B :: fps.flatten) := by
  refine ⟨.inr ⟨B, len, cur, fps, by rw [hl], hrow, ⟨by rw [hfl, hl], by omega⟩, rfl, fun i x hx => hd i x (by have := (List.getElem?_eq_some_iff.1 hx).1; omega) hx⟩, List.nodup_cons.2 ⟨fun hg => by have := (hfr _ hg).1; omega, hnd⟩, fun g hg => ?_⟩
  rcases List.mem_cons.1 hg with rfl | hg
  · omega
  · have := hfr g hg; omega

theorem lt_row {w : World} {g : Nat} {o : Obj} (h : w.heap[g]? = some o) : g < w.heap.size := Nat.lt_of_not_le fun hn => by rw [Array.getElem?_eq_none hn] at h; cases h

end Go.Proofs.Ytkfpfijblflcfaa
