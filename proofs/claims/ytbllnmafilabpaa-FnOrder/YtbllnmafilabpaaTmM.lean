/- Terms as plain data, how they lie in memory, and the law's own measure of them. -/
import Derived.Test.YtbllnmafilabpaaRows
import Derived.WalkKit
import Derived.WalkSpells
import Derived.WalkLawsBesides
import Derived.BigQuiet
import Derived.Deep.QuietTactic
import Derived.Deep.RegionWith
import Derived.Deep.DeepCutAuto
import Derived.Deep.CutRange
namespace Go.Proofs.Ytbllnmafilabpaa
open Go.RowKit

/-- A term of at most d storeys: its kind, its number, its text, what is in it. -/
def Tm : Nat → Type
  | 0 => Empty
  | d + 1 => Int × Int × ByteArray × List (Tm d)

def Tm.K {d : Nat} (t : Tm (d + 1)) : Int := t.1
def Tm.N {d : Nat} (t : Tm (d + 1)) : Int := t.2.1
def Tm.S {d : Nat} (t : Tm (d + 1)) : ByteArray := t.2.2.1
def Tm.L {d : Nat} (t : Tm (d + 1)) : List (Tm d) := t.2.2.2

/-- Four cells that hold a term's fields. -/
def Four (w : World) (b o : Nat) (k n : Int) (s : ByteArray) (v : Value) : Prop :=
  w.cell? ⟨b, o, none⟩ = some (.int .i64 k) ∧ w.cell? ⟨b, o + 1, none⟩ = some (.int .i64 n) ∧ w.cell? ⟨b, o + 2, none⟩ = some (.string s) ∧ w.cell? ⟨b, o + 3, none⟩ = some v

/-- A value that is a slice of the terms ts. -/
def RdL : (d : Nat) → World → Value → List (Tm d) → Prop
  | 0, _, v, _ => ∃ a c, v = .slice a 0 c
  | d + 1, w, v, ts => ∃ a c, v = .slice a ts.length c ∧ ∀ (i : Nat) (t : Tm (d + 1)), ts[i]? = some t → ∃ b o lv, a = some ⟨b, o, none⟩ ∧ Four w b (o + i * 4) t.K t.N t.S lv ∧ RdL d w lv t.L

/-- That a 64-bit int holds it. -/
def I64 (n : Int) : Prop := -9223372036854775808 ≤ n ∧ n ≤ 9223372036854775807

/-- What every list of terms that is in memory is within. -/
def WfL : (d : Nat) → List (Tm d) → Prop
  | 0, _ => True
  | d + 1, ts => ts.length ≤ 9223372036854775807 ∧ ∀ t ∈ ts, I64 t.K ∧ I64 t.N ∧ t.S.size ≤ maxLen ∧ WfL d t.L

/-- How great a list of terms is: each of them, each letter. -/
def szL : (d : Nat) → List (Tm d) → Nat
  | 0, _ => 0
  | d + 1, ts => ts.length + (ts.map fun t => t.S.size + szL d t.L).sum

/-- What is left of a measure. -/
def lft (left : Int) (n : Nat) : Int := if (n : Int) ≤ left then left - n else -1

theorem tret1 {a b : Int} (h : a = b) : Ending.returned (.int .i64 a) = .returned (.int .i64 b) := by rw [h]

theorem Four.later {w w' : World} {b o : Nat} {k n : Int} {s : ByteArray} {v : Value} (h : Four w b o k n s v) (hb : Below w.heap.size w w') : Four w' b o k n s v :=
  ⟨cell_later hb h.1, cell_later hb h.2.1, cell_later hb h.2.2.1, cell_later hb h.2.2.2⟩

theorem RdL.later : ∀ {d : Nat} {w w' : World} {v : Value} {ts : List (Tm d)}, RdL d w v ts → Below w.heap.size w w' → RdL d w' v ts := by
  intro d
  induction d with
  | zero => intro w w' v ts h _; exact h
  | succ d ih =>
    intro w w' v ts h hb
    obtain ⟨a, c, rfl, h1⟩ := h
    refine ⟨a, c, rfl, fun i t ht => ?_⟩
    obtain ⟨b, o, lv, h2, h4, h5⟩ := h1 i t ht
    exact ⟨b, o, lv, h2, h4.later hb, ih h5 hb⟩

/-- The measure of the first terms of a list. -/
def szP (d : Nat) (ts : List (Tm (d + 1))) (i : Nat) : Nat := ((ts.take i).map fun t => t.S.size + szL d t.L).sum

theorem szP_succ (d : Nat) (ts : List (Tm (d + 1))) (i : Nat) (t : Tm (d + 1)) (h : ts[i]? = some t) : szP d ts (i + 1) = szP d ts i + (t.S.size + szL d t.L) := by
  have hl := (List.getElem?_eq_some_iff.1 h).1
  have he := (List.getElem?_eq_some_iff.1 h).2
  unfold szP
  rw [List.take_succ_eq_append_getElem hl, he]
  simp

theorem szP_le (d : Nat) (ts : List (Tm (d + 1))) (i : Nat) : szP d ts i ≤ (ts.map fun t => t.S.size + szL d t.L).sum := by
  unfold szP
  conv => rhs; rw [← List.take_append_drop i ts]
  rw [List.map_append, List.sum_append]
  omega

theorem szP_all (d : Nat) (ts : List (Tm (d + 1))) : ts.length + szP d ts ts.length = szL (d + 1) ts := by
  unfold szP
  rw [List.take_length]
  rfl

end Go.Proofs.Ytbllnmafilabpaa

/- The law's own deep copy of terms: a tree in new memory, no block of which is met twice. -/
namespace Go.Proofs.Ytbllnmafilabpaa
open Go.RowKit

/-- A value that is a slice of the terms ts, in blocks fp of the call's own. -/
def OwnL : (d : Nat) → World → Value → List (Tm d) → List Nat → Prop
  | 0, _, v, _, fp => (∃ a c, v = .slice a 0 c) ∧ fp = []
  | d + 1, w, v, ts, fp => (ts = [] ∧ fp = [] ∧ ∃ a c, v = .slice a 0 c) ∨
      ∃ (g c : Nat) (cur : Array Value) (fps : List (List Nat)), v = .slice (some ⟨g, 0, none⟩) ts.length c ∧ w.heap[g]? = some (.cells cur 26 (0, 0)) ∧ fps.length = ts.length ∧ fp = g :: fps.flatten ∧
        ∀ (i : Nat) (t : Tm (d + 1)), ts[i]? = some t → ∃ lv f, fps[i]? = some f ∧ cur[i * 4]? = some (.int .i64 t.K) ∧ cur[i * 4 + 1]? = some (.int .i64 t.N) ∧ cur[i * 4 + 2]? = some (.string t.S) ∧ cur[i * 4 + 3]? = some lv ∧ OwnL d w lv t.L f

/-- The blocks are all unlike, and none is older than B. -/
def Fresh (B : Nat) (w : World) (fp : List Nat) : Prop := fp.Nodup ∧ ∀ g ∈ fp, B ≤ g ∧ g < w.heap.size

theorem OwnL.frame : ∀ {d : Nat} {w w' : World} {v : Value} {ts : List (Tm d)} {fp : List Nat}, OwnL d w v ts fp → (∀ g ∈ fp, w'.heap[g]? = w.heap[g]?) → OwnL d w' v ts fp := by
  intro d
  induction d with
  | zero => intro w w' v ts fp h _; exact h
  | succ d ih =>
    intro w w' v ts fp h hh
    rcases h with h | ⟨g, c, cur, fps, h1, h2, h3, rfl, h4⟩
    · exact .inl h
    · refine .inr ⟨g, c, cur, fps, h1, by rw [hh g (List.mem_cons_self ..)]; exact h2, h3, rfl, fun i t ht => ?_⟩
      obtain ⟨lv, f, e1, e2, e3, e4, e5, e6⟩ := h4 i t ht
      exact ⟨lv, f, e1, e2, e3, e4, e5, ih e6 fun k hk => hh k (List.mem_cons_of_mem _ (List.mem_flatten.2 ⟨f, List.mem_of_getElem? e1, hk⟩))⟩

theorem OwnL.rd : ∀ {d : Nat} {w : World} {v : Value} {ts : List (Tm d)} {fp : List Nat}, OwnL d w v ts fp → RdL d w v ts := by
  intro d
  induction d with
  | zero => intro w v ts fp h; exact h.1
  | succ d ih =>
    intro w v ts fp h
    rcases h with ⟨rfl, _, a, c, rfl⟩ | ⟨g, c, cur, fps, h1, h2, h3, rfl, h4⟩
    · exact ⟨a, c, rfl, fun i t ht => by simp at ht⟩
    · refine ⟨_, c, h1, fun i t ht => ?_⟩
      obtain ⟨lv, f, e1, e2, e3, e4, e5, e6⟩ := h4 i t ht
      refine ⟨g, 0, lv, rfl, ?_, ih e6⟩
      have hc := fun j => cell_of_row w g j cur 26 (0, 0) h2
      exact ⟨by rw [hc, ← e2, Nat.zero_add], by rw [hc, ← e3, Nat.zero_add], by rw [hc, ← e4, Nat.zero_add], by rw [hc, ← e5, Nat.zero_add]⟩

theorem bcell {W w1 : World} (hb : Below W.heap.size W w1) : (∀ b o, b < W.heap.size → w1.cell? ⟨b, o, none⟩ = W.cell? ⟨b, o, none⟩) ∧ (∀ b o, b < W.heap.size → w1.frozen? ⟨b, o, none⟩ = W.frozen? ⟨b, o, none⟩) :=
  ⟨fun b o h => hb.cell (p := ⟨b, o, none⟩) h, fun b o h => hb.frozen (p := ⟨b, o, none⟩) h⟩

/-- Four cells of a row written anew. -/
def put4 (cur : Array Value) (o : Nat) (a b c d : Value) : Array Value := (((cur.setIfInBounds o a).setIfInBounds (o + 1) b).setIfInBounds (o + 2) c).setIfInBounds (o + 3) d

theorem put4_size (cur : Array Value) (o : Nat) (a b c d : Value) : (put4 cur o a b c d).size = cur.size := by simp [put4]
theorem put4_other (cur : Array Value) (o : Nat) (a b c d : Value) (j : Nat) (h : j < o ∨ o + 3 < j) : (put4 cur o a b c d)[j]? = cur[j]? := by
  unfold put4
  rw [Array.getElem?_setIfInBounds_ne (by omega), Array.getElem?_setIfInBounds_ne (by omega), Array.getElem?_setIfInBounds_ne (by omega), Array.getElem?_setIfInBounds_ne (by omega)]
theorem put4_at (cur : Array Value) (o : Nat) (a b c d : Value) (h : o + 3 < cur.size) : (put4 cur o a b c d)[o]? = some a ∧ (put4 cur o a b c d)[o + 1]? = some b ∧ (put4 cur o a b c d)[o + 2]? = some c ∧ (put4 cur o a b c d)[o + 3]? = some d := by
  unfold put4
  refine ⟨?_, ?_, ?_, ?_⟩
  · rw [Array.getElem?_setIfInBounds_ne (by omega), Array.getElem?_setIfInBounds_ne (by omega), Array.getElem?_setIfInBounds_ne (by omega), Array.getElem?_setIfInBounds_self]; simp; omega
  · rw [Array.getElem?_setIfInBounds_ne (by omega), Array.getElem?_setIfInBounds_ne (by omega), Array.getElem?_setIfInBounds_self]; simp; omega
  · rw [Array.getElem?_setIfInBounds_ne (by omega), Array.getElem?_setIfInBounds_self]; simp; omega
  · rw [Array.getElem?_setIfInBounds_self]; simp; omega

theorem stores4 (w : World) (g o : Nat) (cur : Array Value) (T : TypeId) (hh : w.heap[g]? = some (.cells cur T (0, 0))) (a b c d : Value) :
    ((((w.setCell ⟨g, o, none⟩ a).setCell ⟨g, o + 1, none⟩ b).setCell ⟨g, o + 2, none⟩ c).setCell ⟨g, o + 3, none⟩ d).heap[g]? = some (.cells (put4 cur o a b c d) T (0, 0)) ∧
    (∀ j, j ≠ g → ((((w.setCell ⟨g, o, none⟩ a).setCell ⟨g, o + 1, none⟩ b).setCell ⟨g, o + 2, none⟩ c).setCell ⟨g, o + 3, none⟩ d).heap[j]? = w.heap[j]?) := by
  constructor
  · exact heap_setCell_same _ g _ _ _ _ (heap_setCell_same _ g _ _ _ _ (heap_setCell_same _ g _ _ _ _ (heap_setCell_same w g _ _ _ _ hh)))
  · intro j hj
    rw [heap_setCell_other _ _ _ _ (by simp; omega), heap_setCell_other _ _ _ _ (by simp; omega), heap_setCell_other _ _ _ _ (by simp; omega), heap_setCell_other _ _ _ _ (by simp; omega)]

theorem stores4_below (w : World) (g o : Nat) (a b c d : Value) : Below g w ((((w.setCell ⟨g, o, none⟩ a).setCell ⟨g, o + 1, none⟩ b).setCell ⟨g, o + 2, none⟩ c).setCell ⟨g, o + 3, none⟩ d) := by
  have h1 := (Below.refl g w).setCell (p := ⟨g, o, none⟩) (Nat.le_refl g) a
  have h2 := h1.setCell (p := ⟨g, o + 1, none⟩) (Nat.le_refl g) b
  have h3 := h2.setCell (p := ⟨g, o + 2, none⟩) (Nat.le_refl g) c
  exact h3.setCell (p := ⟨g, o + 3, none⟩) (Nat.le_refl g) d
theorem stores4_size (w : World) (g o : Nat) (a b c d : Value) : ((((w.setCell ⟨g, o, none⟩ a).setCell ⟨g, o + 1, none⟩ b).setCell ⟨g, o + 2, none⟩ c).setCell ⟨g, o + 3, none⟩ d).heap.size = w.heap.size := by simp

theorem Try.infoTerm : (Try.prog.info? 26).map (fun i => (i.zero, i.size, i.bytes)) = some (some (.agg #[.int .i64 0, .int .i64 0, .string ⟨#[]⟩, .slice none 0 0]), 4, 56) := by kernel_rfl

/-- The first k terms of a list lie copied in the row at B. -/
def Done (d : Nat) (ts : List (Tm (d + 1))) (k : Nat) (w : World) (cur : Array Value) (fps : List (List Nat)) : Prop :=
  ∀ (i : Nat) (t : Tm (d + 1)), i < k → ts[i]? = some t → ∃ lv f, fps[i]? = some f ∧ cur[i * 4]? = some (.int .i64 t.K) ∧ cur[i * 4 + 1]? = some (.int .i64 t.N) ∧ cur[i * 4 + 2]? = some (.string t.S) ∧ cur[i * 4 + 3]? = some lv ∧ OwnL d w lv t.L f

theorem to_step {d : Nat} {ts : List (Tm (d + 1))} {B len k : Nat} {w wr w2 W : World} {cur : Array Value} {fps : List (List Nat)} {t : Tm (d + 1)} {lv : Value} {fp : List Nat}
    (hk : k < len) (hcs : cur.size = len * 4) (hfl : fps.length = k) (hnd : fps.flatten.Nodup) (hfr : ∀ g ∈ fps.flatten, B < g ∧ g < wr.heap.size) (hwz : B < wr.heap.size) (hb : Below B w wr) (hb2 : Below wr.heap.size wr w2)
    (hdone : Done d ts k wr cur fps) (ht : ts[k]? = some t) (hown : OwnL d w2 lv t.L fp) (hfr2 : Fresh wr.heap.size w2 fp)
    (hW1 : W.heap[B]? = some (.cells (put4 cur (k * 4) (.int .i64 t.K) (.int .i64 t.N) (.string t.S) lv) 26 (0, 0))) (hW2 : ∀ j, j ≠ B → W.heap[j]? = w2.heap[j]?) (hWs : W.heap.size = w2.heap.size) (hWb : Below B w2 W) :
    (put4 cur (k * 4) (.int .i64 t.K) (.int .i64 t.N) (.string t.S) lv).size = len * 4 ∧ (fps ++ [fp]).length = k + 1 ∧ (fps ++ [fp]).flatten.Nodup ∧ (∀ g ∈ (fps ++ [fp]).flatten, B < g ∧ g < W.heap.size) ∧ Below B w W ∧
      Done d ts (k + 1) W (put4 cur (k * 4) (.int .i64 t.K) (.int .i64 t.N) (.string t.S) lv) (fps ++ [fp]) := by
  have hmem : ∀ g ∈ fps.flatten, g < wr.heap.size := fun g hg => (hfr g hg).2
  refine ⟨by rw [put4_size, hcs], by simp [hfl], ?_, ?_, (hb.trans (hb2.mono (by omega))).trans hWb, ?_⟩
  · rw [List.flatten_append, List.flatten_singleton, List.nodup_append]
    exact ⟨hnd, hfr2.1, fun a ha b hb e => by have := hmem a ha; have := (hfr2.2 b hb).1; omega⟩
  · intro g hg
    rw [List.flatten_append, List.flatten_singleton, List.mem_append] at hg
    rw [hWs]
    rcases hg with hg | hg
    · have := hfr g hg; have := hb2.size; omega
    · have := hfr2.2 g hg; omega
  · intro i u hi hu
    by_cases hik : i < k
    · obtain ⟨lv', f, e1, e2, e3, e4, e5, e6⟩ := hdone i u hik hu
      refine ⟨lv', f, by rw [List.getElem?_append_left (by omega)]; exact e1, by rw [put4_other _ _ _ _ _ _ _ (by omega)]; exact e2, by rw [put4_other _ _ _ _ _ _ _ (by omega)]; exact e3, by rw [put4_other _ _ _ _ _ _ _ (by omega)]; exact e4, by rw [put4_other _ _ _ _ _ _ _ (by omega)]; exact e5, e6.frame fun g hg => ?_⟩
      have hgf : g ∈ fps.flatten := List.mem_flatten.2 ⟨f, List.mem_of_getElem? e1, hg⟩
      have := hfr g hgf
      rw [hW2 g (by omega), hb2.block g (by omega)]
    · obtain rfl : i = k := by omega
      rw [ht] at hu
      obtain rfl := Option.some.inj hu
      have h4 := put4_at cur (i * 4) (.int .i64 t.K) (.int .i64 t.N) (.string t.S) lv (by omega)
      refine ⟨lv, fp, by rw [List.getElem?_append_right (by omega), hfl]; simp, h4.1, h4.2.1, h4.2.2.1, h4.2.2.2, hown.frame fun g hg => ?_⟩
      have := (hfr2.2 g hg).1
      exact hW2 g (by omega)

end Go.Proofs.Ytbllnmafilabpaa

/- The law's own comparison of terms: two that read as one are alike. -/
namespace Go.Proofs.Ytbllnmafilabpaa
open Go.RowKit

theorem RdL.shape {d : Nat} {w : World} {v : Value} {ts : List (Tm d)} (h : RdL d w v ts) : ∃ a l c, v = .slice a l c := by
  cases d with
  | zero => obtain ⟨a, c, h⟩ := h; exact ⟨a, _, c, h⟩
  | succ d => obtain ⟨a, c, h, _⟩ := h; exact ⟨a, _, c, h⟩

end Go.Proofs.Ytbllnmafilabpaa

/- What the model's comparison of two terms comes to: whether they are one. -/
namespace Go.Proofs.Ytbllnmafilabpaa
open Go.RowKit
set_option linter.unusedVariables false

/-- The contract of the comparison, at terms of d storeys below. -/
def Sm (f d : Nat) : Prop := ∀ (k n : Int) (s : ByteArray) (l : Value) (ts : List (Tm d)) (k' n' : Int) (s' : ByteArray) (l' : Value) (ts' : List (Tm d)) (w : World), RdL d w l ts → RdL d w l' ts' → WfL d ts → WfL d ts' →
  Calls Try.prog f #[.agg #[.int .i64 k, .int .i64 n, .string s, l], .agg #[.int .i64 k', .int .i64 n', .string s', l']] w fun e w' => ∃ b : Bool, e = .returned (.bool b) ∧ (b = true ↔ k = k' ∧ n = n' ∧ s = s' ∧ ts = ts') ∧ Below w.heap.size w w'

theorem toList_inj {x y : ByteArray} (h : x.toList = y.toList) : x = y := by
  rw [ByteArray.toList_eq, ByteArray.toList_eq] at h
  exact ByteArray.ext (Array.toList_inj.mp h)

set_option maxHeartbeats 1000000 in
theorem specSame_no (d : Nat) (k n : Int) (s : ByteArray) (a : Option Addr) (len c : Nat) (ts : List (Tm d)) (k' n' : Int) (s' : ByteArray) (a' : Option Addr) (len' c' : Nat) (ts' : List (Tm d)) (w : World)
    (hl : len ≤ 9223372036854775807) (hl' : len' ≤ 9223372036854775807) (h : k ≠ k' ∨ n ≠ n' ∨ s ≠ s' ∨ len ≠ len') :
    Calls Try.prog 25 #[.agg #[.int .i64 k, .int .i64 n, .string s, .slice a len c], .agg #[.int .i64 k', .int .i64 n', .string s', .slice a' len' c']] w fun e w' => e = .returned (.bool false) ∧ Below w.heap.size w w' := by
  have hA : Below w.heap.size w ((w.alloc (.cells #[.int .i64 k, .int .i64 n, .string s, .slice a len c] 26)).alloc (.cells #[.int .i64 k', .int .i64 n', .string s', .slice a' len' c'] 26)) := ((Below.refl _ _).alloc (Nat.le_refl _) _).alloc (by simp) _
  by_cases h1 : k = k'
  · subst h1
    by_cases h2 : n = n'
    · subst h2
      by_cases h3 : s = s'
      · subst h3
        have hb : ((len : Int) != (len' : Int)) = true := by rw [bne_iff_ne]; simp at h; omega
        go_enter Try.func25, Try.ntmps25
        go_wp2
        go_ret
        exact ⟨rfl, hA⟩
      · have hb : ¬ s.toList = s'.toList := fun e => h3 (toList_inj e)
        go_enter Try.func25, Try.ntmps25
        go_wp2
        go_ret
        exact ⟨rfl, hA⟩
    · have hb : (n != n') = true := by rw [bne_iff_ne]; exact h2
      go_enter Try.func25, Try.ntmps25
      go_wp2
      go_ret
      exact ⟨rfl, hA⟩
  · have hb : (k != k') = true := by rw [bne_iff_ne]; exact h1
    go_enter Try.func25, Try.ntmps25
    go_wp2
    go_ret
    exact ⟨rfl, hA⟩

theorem RdL.len {d : Nat} {w : World} {v : Value} {ts : List (Tm d)} (h : RdL d w v ts) : ∃ a c, v = .slice a ts.length c := by
  cases d with
  | zero =>
    obtain ⟨a, c, h⟩ := h
    have : ts = [] := by
      cases ts with
      | nil => rfl
      | cons t _ => exact Empty.elim t
    exact ⟨a, c, by rw [h, this]; rfl⟩
  | succ d => obtain ⟨a, c, h, _⟩ := h; exact ⟨a, c, h⟩

theorem WfL.len {d : Nat} {ts : List (Tm d)} (h : WfL d ts) : ts.length ≤ 9223372036854775807 := by
  cases d with
  | zero =>
    cases ts with
    | nil => simp
    | cons t _ => exact Empty.elim t
  | succ d => exact h.1

theorem tm_ext {d : Nat} {t t' : Tm (d + 1)} (h1 : t.K = t'.K) (h2 : t.N = t'.N) (h3 : t.S = t'.S) (h4 : t.L = t'.L) : t = t' := by
  obtain ⟨a, b, c, e⟩ := t
  obtain ⟨a', b', c', e'⟩ := t'
  simp only [Tm.K, Tm.N, Tm.S, Tm.L] at h1 h2 h3 h4
  subst h1; subst h2; subst h3; subst h4
  rfl

theorem heap_two (w : World) (o1 o2 : Obj) : ((w.alloc o1).alloc o2).heap[w.heap.size]? = some o1 ∧ ((w.alloc o1).alloc o2).heap[w.heap.size + 1]? = some o2 := by
  constructor
  · rw [Below.heap_alloc _ _ _ (by simp)]; exact heap_alloc_new w o1
  · have := heap_alloc_new (w.alloc o1) o2
    simpa using this

set_option maxHeartbeats 2000000 in
theorem specSame_any : ∀ d, Sm 25 d := by
  intro d
  induction d with
  | zero =>
    intro k n s l ts k' n' s' l' ts' w hr hr' hw hw'
    obtain ⟨a, c, rfl⟩ := hr
    obtain ⟨a', c', rfl⟩ := hr'
    have hts : ts = ts' := by
      cases ts with
      | nil => cases ts' with
        | nil => rfl
        | cons t _ => exact Empty.elim t
      | cons t _ => exact Empty.elim t
    by_cases h : k = k' ∧ n = n' ∧ s = s'
    · obtain ⟨rfl, rfl, rfl⟩ := h
      have hA : Below w.heap.size w ((w.alloc (.cells #[.int .i64 k, .int .i64 n, .string s, .slice a 0 c] 26)).alloc (.cells #[.int .i64 k, .int .i64 n, .string s, .slice a' 0 c'] 26)) := ((Below.refl _ _).alloc (Nat.le_refl _) _).alloc (by simp) _
      go_enter Try.func25, Try.ntmps25
      go_wp2
      refine wp_loop_rounds 1 ?_
      rw [rounds_succ]
      go_wp2
      go_ret
      exact ⟨true, rfl, by simp [hts], hA⟩
    · refine (specSame_no 0 k n s a 0 c ts k' n' s' a' 0 c' ts' w (by omega) (by omega) (by
        rcases Classical.em (k = k') with h1 | h1
        · rcases Classical.em (n = n') with h2 | h2
          · exact .inr (.inr (.inl fun h3 => h ⟨h1, h2, h3⟩))
          · exact .inr (.inl h2)
        · exact .inl h1)).mono ?_
      rintro e w' ⟨rfl, hb⟩
      exact ⟨false, rfl, by simp only [Bool.false_eq_true, false_iff]; exact fun h4 => h ⟨h4.1, h4.2.1, h4.2.2.1⟩, hb⟩
  | succ d ih =>
    intro k n s l ts k' n' s' l' ts' w hr hr' hw hw'
    by_cases h : k = k' ∧ n = n' ∧ s = s' ∧ ts.length = ts'.length
    · obtain ⟨rfl, rfl, rfl, hlen⟩ := h
      obtain ⟨a, c, rfl, hel⟩ := hr
      obtain ⟨a', c', rfl, hel'⟩ := hr'
      have HE : Hid (∀ (i : Nat) (t : Tm (d + 1)), ts[i]? = some t → ∃ b o lv, a = some ⟨b, o, none⟩ ∧ Four w b (o + i * 4) t.K t.N t.S lv ∧ RdL d w lv t.L) := hel
      have HE' : Hid (∀ (i : Nat) (t : Tm (d + 1)), ts'[i]? = some t → ∃ b o lv, a' = some ⟨b, o, none⟩ ∧ Four w b (o + i * 4) t.K t.N t.S lv ∧ RdL d w lv t.L) := hel'
      have HW : Hid (WfL (d + 1) ts) := hw
      have HW' : Hid (WfL (d + 1) ts') := hw'
      have hm : ts.length ≤ 9223372036854775807 := hw.1
      rw [← hlen]
      obtain ⟨len, hl⟩ : ∃ len, ts.length = len := ⟨_, rfl⟩
      have HL : Hid (ts.length = len) := hl
      have HL' : Hid (ts'.length = len) := hlen.symm.trans hl
      rw [hl] at hm ⊢
      obtain ⟨W, hW⟩ : ∃ W, W = (w.alloc (.cells #[.int .i64 k, .int .i64 n, .string s, .slice a len c] 26)).alloc (.cells #[.int .i64 k, .int .i64 n, .string s, .slice a' len c'] 26) := ⟨_, rfl⟩
      have hA : Below w.heap.size w W := by rw [hW]; exact ((Below.refl _ _).alloc (Nat.le_refl _) _).alloc (by simp) _
      have hWz : W.heap.size = w.heap.size + 2 := by rw [hW]; simp
      have hB1 : W.heap[w.heap.size]? = some (.cells #[.int .i64 k, .int .i64 n, .string s, .slice a len c] 26 (0, 0)) := by rw [hW]; exact (heap_two w _ _).1
      have hB2 : W.heap[w.heap.size + 1]? = some (.cells #[.int .i64 k, .int .i64 n, .string s, .slice a' len c'] 26 (0, 0)) := by rw [hW]; exact (heap_two w _ _).2
      have HI := fun (t t' : Tm (d + 1)) (lv lv' : Value) (wr : World) (h1 : RdL d wr lv t.L) (h2 : RdL d wr lv' t'.L) (h3 : WfL d t.L) (h4 : WfL d t'.L) => ih t.K t.N t.S lv t.L t'.K t'.N t'.S lv' t'.L wr h1 h2 h3 h4
      have HII : Hid (∀ (t t' : Tm (d + 1)) (lv lv' : Value) (wr : World), RdL d wr lv t.L → RdL d wr lv' t'.L → WfL d t.L → WfL d t'.L → Calls Try.prog 25 #[.agg #[.int .i64 t.K, .int .i64 t.N, .string t.S, lv], .agg #[.int .i64 t'.K, .int .i64 t'.N, .string t'.S, lv']] wr fun e w' => ∃ b : Bool, e = .returned (.bool b) ∧ (b = true ↔ t.K = t'.K ∧ t.N = t'.N ∧ t.S = t'.S ∧ t.L = t'.L) ∧ Below wr.heap.size wr w') := HI
      clear ih HI hel hel' hw hw' hlen hl
      go_enter Try.func25, Try.ntmps25
      go_wp2_with fail
      rw [← hW]
      have HWW : Hid (W = _) := hW
      clear hW
      go_loopw [5] (fun i wr => ∃ j : Nat, j ≤ len ∧ i = .int .i64 j ∧ Below W.heap.size W wr ∧ Hid (∀ m, m < j → ts[m]? = ts'[m]?)) (fun i _ => len - (intOf i).toNat)
      case atStart => exact ⟨0, Nat.zero_le _, rfl, Below.refl _ _, fun m hm => by omega⟩
      case round =>
        obtain ⟨j, hj, rfl, hb, HS⟩ := hrel
        have c1 : wr.cell? ⟨w.heap.size, 3, none⟩ = some (.slice a len c) := by rw [cell_of_row wr _ 3 _ _ _ ((hb.block _ (by omega)).trans hB1)]; rfl
        have c2 : wr.cell? ⟨w.heap.size + 1, 3, none⟩ = some (.slice a' len c') := by rw [cell_of_row wr _ 3 _ _ _ ((hb.block _ (by omega)).trans hB2)]; rfl
        have hbw : Below w.heap.size w wr := hA.trans (hb.mono (by omega))
        by_cases hjl : j < len
        · obtain ⟨t, ht⟩ : ∃ t, ts[j]? = some t := ⟨_, List.getElem?_eq_getElem (by rw [HL.out]; exact hjl)⟩
          obtain ⟨t', ht'⟩ : ∃ t, ts'[j]? = some t := ⟨_, List.getElem?_eq_getElem (by rw [HL'.out]; exact hjl)⟩
          obtain ⟨b1, o1, lv1, rfl, F1, L1⟩ := HE.out j t ht
          obtain ⟨b2, o2, lv2, rfl, F2, L2⟩ := HE'.out j t' ht'
          obtain ⟨_, _, _, hwt⟩ := HW.out.2 t (List.mem_of_getElem? ht)
          obtain ⟨_, _, _, hwt'⟩ := HW'.out.2 t' (List.mem_of_getElem? ht')
          obtain ⟨f0, f1, f2, f3⟩ := F1.later hbw
          obtain ⟨g0, g1, g2, g3⟩ := F2.later hbw
          have L1' := L1.later hbw
          have L2' := L2.later hbw
          obtain ⟨x1, y1, z1, hs1⟩ := L1'.shape
          obtain ⟨x2, y2, z2, hs2⟩ := L2'.shape
          rw [hs1] at f3 L1'
          rw [hs2] at g3 L2'
          have hjl' : (j : Int) < (len : Int) := by omega
          have HC : Hid (∀ V : World, Below wr.heap.size wr V → Calls Try.prog 25 #[.agg #[.int .i64 t.K, .int .i64 t.N, .string t.S, .slice x1 y1 z1], .agg #[.int .i64 t'.K, .int .i64 t'.N, .string t'.S, .slice x2 y2 z2]] V fun e w' => ∃ b : Bool, e = .returned (.bool b) ∧ (b = true ↔ t.K = t'.K ∧ t.N = t'.N ∧ t.S = t'.S ∧ t.L = t'.L) ∧ Below V.heap.size V w') :=
            fun V hV => HII.out t t' _ _ V (L1'.later hV) (L2'.later hV) hwt hwt'
          have HT : Hid (ts[j]? = some t ∧ ts'[j]? = some t') := ⟨ht, ht'⟩
          clear F1 F2 L1 L2 L1' L2' hs1 hs2 HII ht ht' hwt hwt' hbw
          go_wp2_with fail
          go_region_with (go_at_call 25; refine (HC.out _ ?_).mono ?_; exact (Below.refl _ _).drew; rintro e V ⟨b, rfl, hbi, hB⟩)
          all_goals
            have hb2 : Below W.heap.size W V := hb.drew.trans (hB.mono hb.drew.size)
            have HBI : Hid (b = true ↔ t.K = t'.K ∧ t.N = t'.N ∧ t.S = t'.S ∧ t.L = t'.L) := hbi
            clear hb hB hbi f0 f1 f2 f3 g0 g1 g2 g3 c1 c2
            cases b
            · have HF : Hid (¬ ts = ts') := fun e => by
                have h1 := HT.out.1; have h2 := HT.out.2
                rw [e, h2] at h1
                cases h1
                exact Bool.noConfusion (HBI.out.2 ⟨rfl, rfl, rfl, rfl⟩)
              have hbf : Below w.heap.size w V := hA.trans (hb2.mono (by omega))
              clear hb2
              go_wp2
              go_ret
              exact ⟨false, rfl, by simp only [Bool.false_eq_true, false_iff]; exact fun h => HF.out h.2.2.2, hbf⟩
            · have HS2 : Hid (∀ m, m < j + 1 → ts[m]? = ts'[m]?) := fun m hm => by
                by_cases hmj : m < j
                · exact HS.out m hmj
                · obtain rfl : m = j := by omega
                  rw [HT.out.1, HT.out.2]
                  obtain ⟨e1, e2, e3, e4⟩ := HBI.out.1 rfl
                  rw [tm_ext e1 e2 e3 e4]
              go_wp2
              go_roundw
              case rel => exact ⟨j + 1, by omega, by go_num, hb2, HS2⟩
              case measure => simp [intOf]; omega
        · have HF : Hid (ts = ts') := List.ext_getElem? fun m => by
            by_cases hmj : m < j
            · exact HS.out m hmj
            · rw [List.getElem?_eq_none (by have := HL.out; omega), List.getElem?_eq_none (by have := HL'.out; omega)]
          clear hb
          go_wp2
          go_ret
          exact ⟨true, rfl, by simp [HF.out], hbw⟩
    · obtain ⟨a, c, e1⟩ := hr.len
      obtain ⟨a', c', e2⟩ := hr'.len
      rw [e1, e2]
      refine (specSame_no (d + 1) k n s a _ c ts k' n' s' a' _ c' ts' w hw.len hw'.len (by
        rcases Classical.em (k = k') with h1 | h1
        · rcases Classical.em (n = n') with h2 | h2
          · rcases Classical.em (s = s') with h3 | h3
            · exact .inr (.inr (.inr fun h4 => h ⟨h1, h2, h3, h4⟩))
            · exact .inr (.inr (.inl h3))
          · exact .inr (.inl h2)
        · exact .inl h1)).mono ?_
      rintro e w' ⟨rfl, hb⟩
      exact ⟨false, rfl, by simp only [Bool.false_eq_true, false_iff]; exact fun h4 => h ⟨h4.1, h4.2.1, h4.2.2.1, by rw [h4.2.2.2]⟩, hb⟩
end Go.Proofs.Ytbllnmafilabpaa

/- How many terms there are, how deep they are, and that the model's two functions tell it. -/
namespace Go.Proofs.Ytbllnmafilabpaa
open Go.RowKit
set_option linter.unusedVariables false

/-- How many terms are in a list, all storeys. -/
def cntL : (d : Nat) → List (Tm d) → Nat
  | 0, _ => 0
  | d + 1, ts => (ts.map fun t => 1 + cntL d t.L).sum

/-- How deep the deepest of a list is. -/
def depL : (d : Nat) → List (Tm d) → Nat
  | 0, _ => 0
  | d + 1, ts => (ts.map fun t => 1 + depL d t.L).foldl max 0

def cntP (d : Nat) (ts : List (Tm (d + 1))) (i : Nat) : Nat := ((ts.take i).map fun t => 1 + cntL d t.L).sum
def depP (d : Nat) (ts : List (Tm (d + 1))) (i : Nat) : Nat := ((ts.take i).map fun t => 1 + depL d t.L).foldl max 0

theorem cntP_succ (d : Nat) (ts : List (Tm (d + 1))) (i : Nat) (t : Tm (d + 1)) (h : ts[i]? = some t) : cntP d ts (i + 1) = cntP d ts i + (1 + cntL d t.L) := by
  have hl := (List.getElem?_eq_some_iff.1 h).1
  have he := (List.getElem?_eq_some_iff.1 h).2
  unfold cntP
  rw [List.take_succ_eq_append_getElem hl, he]
  simp
theorem depP_succ (d : Nat) (ts : List (Tm (d + 1))) (i : Nat) (t : Tm (d + 1)) (h : ts[i]? = some t) : depP d ts (i + 1) = max (depP d ts i) (1 + depL d t.L) := by
  have hl := (List.getElem?_eq_some_iff.1 h).1
  have he := (List.getElem?_eq_some_iff.1 h).2
  unfold depP
  rw [List.take_succ_eq_append_getElem hl, he]
  simp
theorem cntP_all (d : Nat) (ts : List (Tm (d + 1))) (i : Nat) (h : ts.length ≤ i) : cntP d ts i = cntL (d + 1) ts := by
  unfold cntP; rw [List.take_of_length_le h]; rfl
theorem depP_all (d : Nat) (ts : List (Tm (d + 1))) (i : Nat) (h : ts.length ≤ i) : depP d ts i = depL (d + 1) ts := by
  unfold depP; rw [List.take_of_length_le h]; rfl
theorem cntP_le (d : Nat) (ts : List (Tm (d + 1))) (i : Nat) : cntP d ts i ≤ cntL (d + 1) ts := by
  show _ ≤ (ts.map fun t => 1 + cntL d t.L).sum
  unfold cntP
  conv => rhs; rw [← List.take_append_drop i ts]
  rw [List.map_append, List.sum_append]
  omega

theorem cntL_szL : ∀ (d : Nat) (ts : List (Tm d)), cntL d ts ≤ szL d ts := by
  intro d
  induction d with
  | zero => intro ts; exact Nat.le_refl _
  | succ d ih =>
    intro ts
    show (ts.map fun t => 1 + cntL d t.L).sum ≤ ts.length + (ts.map fun t => t.S.size + szL d t.L).sum
    induction ts with
    | nil => simp
    | cons t r ih2 =>
      have := ih t.L
      simp only [List.map_cons, List.sum_cons, List.length_cons]
      omega

theorem foldl_max_ge (l : List Nat) : ∀ a, a ≤ l.foldl max a ∧ ∀ x ∈ l, x ≤ l.foldl max a := by
  induction l with
  | nil => intro a; exact ⟨Nat.le_refl _, fun x hx => by cases hx⟩
  | cons b r ih =>
    intro a
    have h := ih (max a b)
    refine ⟨by simp only [List.foldl_cons]; omega, fun x hx => ?_⟩
    rcases List.mem_cons.1 hx with rfl | hx
    · simp only [List.foldl_cons]; omega
    · simp only [List.foldl_cons]; exact h.2 x hx
theorem foldl_max_le (l : List Nat) : ∀ (a m : Nat), a ≤ m → (∀ x ∈ l, x ≤ m) → l.foldl max a ≤ m := by
  induction l with
  | nil => intro a m h _; exact h
  | cons b r ih =>
    intro a m h hx
    exact ih (max a b) m (by have := hx b (List.mem_cons_self ..); omega) fun x hx' => hx x (List.mem_cons_of_mem _ hx')

theorem depL_cntL : ∀ (d : Nat) (ts : List (Tm d)), depL d ts ≤ cntL d ts := by
  intro d
  induction d with
  | zero => intro ts; exact Nat.le_refl _
  | succ d ih =>
    intro ts
    refine foldl_max_le _ 0 _ (Nat.zero_le _) fun x hx => ?_
    obtain ⟨t, ht, rfl⟩ := List.mem_map.1 hx
    have h1 := ih t.L
    have h2 : ∀ (l : List (Tm (d + 1))), t ∈ l → 1 + cntL d t.L ≤ (l.map fun t => 1 + cntL d t.L).sum := by
      intro l hl
      induction l with
      | nil => cases hl
      | cons b r ih2 =>
        simp only [List.map_cons, List.sum_cons]
        rcases List.mem_cons.1 hl with rfl | hl
        · omega
        · have := ih2 hl; omega
    have := h2 ts ht
    show 1 + depL d t.L ≤ (ts.map fun t => 1 + cntL d t.L).sum
    omega

theorem depP_le (d : Nat) (ts : List (Tm (d + 1))) (i : Nat) : depP d ts i ≤ depL (d + 1) ts := by
  refine foldl_max_le _ 0 _ (Nat.zero_le _) fun x hx => ?_
  obtain ⟨t, ht, rfl⟩ := List.mem_map.1 hx
  exact (foldl_max_ge _ 0).2 _ (List.mem_map.2 ⟨t, List.mem_of_mem_take ht, rfl⟩)

/-- The contract of a function that tells a number of a term. -/
def Tells (f d : Nat) (g : (d : Nat) → List (Tm d) → Nat) : Prop := ∀ (k n : Int) (s : ByteArray) (l : Value) (ts : List (Tm d)) (w : World), RdL d w l ts → WfL d ts → cntL d ts ≤ 1099511627776 →
  Calls Try.prog f #[.agg #[.int .i64 k, .int .i64 n, .string s, l]] w fun e w' => e = .returned (.int .i64 (1 + g d ts : Nat)) ∧ Below w.heap.size w w'

theorem cnt_elem {d : Nat} {ts : List (Tm (d + 1))} {j : Nat} {t : Tm (d + 1)} (ht : ts[j]? = some t) (h : cntL (d + 1) ts ≤ 1099511627776) : cntL d t.L ≤ 1099511627776 := by
  have h1 := cntP_succ d ts j t ht
  have h2 := cntP_le d ts (j + 1)
  omega

end Go.Proofs.Ytbllnmafilabpaa

/- When a term is right, and that the model's checks tell it. -/
namespace Go.Proofs.Ytbllnmafilabpaa
open Go.RowKit
set_option linter.unusedVariables false

theorem iff_no {P : Prop} (h : ¬ P) : false = true ↔ P := ⟨fun e => Bool.noConfusion e, fun p => absurd p h⟩
theorem iff_yes {P : Prop} (h : P) : true = true ↔ P := ⟨fun _ => h, fun _ => rfl⟩

theorem specIn_any (x lo hi : Int) (w : World) :
    Calls Try.prog 43 #[.int .i64 x, .int .i64 lo, .int .i64 hi] w fun e w' => e = .returned (.bool (decide (lo ≤ x ∧ x ≤ hi))) ∧ w = w' := by
  by_cases h1 : lo ≤ x
  · by_cases h2 : x ≤ hi
    · have hd : decide (lo ≤ x ∧ x ≤ hi) = true := by simp [h1, h2]
      rw [hd]
      go_enter Try.func43, Try.ntmps43
      go_wp2
      go_ret
      exact ⟨rfl, rfl⟩
    · have hd : decide (lo ≤ x ∧ x ≤ hi) = false := by simp; omega
      rw [hd]
      go_enter Try.func43, Try.ntmps43
      go_wp2
      go_ret
      exact ⟨rfl, rfl⟩
  · have hd : decide (lo ≤ x ∧ x ≤ hi) = false := by simp; omega
    rw [hd]
    go_enter Try.func43, Try.ntmps43
    go_wp2
    go_ret
    exact ⟨rfl, rfl⟩

/-- A letter that an atom may have at place i. -/
def ChOk (i : Nat) (x : Int) : Prop := (97 ≤ x ∧ x ≤ 122) ∨ (i ≠ 0 ∧ ((48 ≤ x ∧ x ≤ 57) ∨ x = 95))

/-- An atom. -/
def AtomP (s : ByteArray) : Prop := (∀ (i : Nat) (h : i < s.size), ChOk i (s[i].toNat : Int)) ∧ 1 ≤ s.size ∧ s.size ≤ 20

set_option maxHeartbeats 1000000 in
theorem specAtomOk_any (s : ByteArray) (w : World) (hs : s.size ≤ 9223372036854775807) :
    Calls Try.prog 44 #[.string s] w fun e w' => ∃ b : Bool, e = .returned (.bool b) ∧ (b = true ↔ AtomP s) ∧ w = w' := by
  go_enter Try.func44, Try.ntmps44
  go_wp2_with fail
  go_loop [3] (fun i => ∃ k : Nat, k ≤ s.size ∧ i = .int .i64 k ∧ Hid (∀ (j : Nat) (h : j < s.size), j < k → ChOk j (s[j].toNat : Int))) (fun i => s.size - (intOf i).toNat)
  case atStart => exact ⟨0, Nat.zero_le _, rfl, fun j _ hj => by omega⟩
  case round =>
    obtain ⟨k, hk, rfl, HD⟩ := hrel
    by_cases hlt : k < s.size
    · have hbyte : (s[k].toNat : Int) ≤ 255 := by have := s[k].toNat_lt; omega
      obtain ⟨x, hx⟩ : ∃ x, wrap64 (s[k].toNat : Int) = x := ⟨_, rfl⟩
      have HX : Hid ((s[k].toNat : Int) = x) := by rw [← hx]; exact (IntWalk.wrap64_in _ ⟨by omega, by omega⟩).symm
      clear hbyte
      have HN : Hid (ChOk k x → ∀ (j : Nat) (h : j < s.size), j < k + 1 → ChOk j (s[j].toNat : Int)) := fun hc j hj hjk => by
        by_cases h : j < k
        · exact HD.out j hj h
        · obtain rfl : j = k := by omega
          rw [HX.out]; exact hc
      have HF : Hid (¬ ChOk k x → ¬ AtomP s) := fun hc ha => hc (by rw [← HX.out]; exact ha.1 k hlt)
      go_wp2_with fail
      clear hx
      generalize Value.int IntKind.u8 (s[k].toNat : Int) = u
      by_cases hsm : 97 ≤ x ∧ x ≤ 122
      · have hL := specIn_any x 97 122 w
        rw [show decide (97 ≤ x ∧ x ≤ 122) = true from by simp [hsm]] at hL
        have HR := HN.out (.inl hsm)
        have HRR : Hid (∀ (j : Nat) (h : j < s.size), j < k + 1 → ChOk j (s[j].toNat : Int)) := HR
        clear HR HN HF HX HD hsm
        refine hL.mono ?_
        clear hL
        rintro e w' ⟨rfl, rfl⟩
        go_wp2_with fail
        go_round
        case rel => exact ⟨k + 1, by omega, by go_num, HRR⟩
        case measure => simp [intOf]; omega
      · have hL := specIn_any x 97 122 w
        rw [show decide (97 ≤ x ∧ x ≤ 122) = false from by simp; omega] at hL
        refine hL.mono ?_
        clear hL
        rintro e w' ⟨rfl, rfl⟩
        by_cases hk0 : k = 0
        · have hb0 : ((k : Int) == 0) = true := by simp [hk0]
          have HR : Hid (¬ AtomP s) := HF.out (fun h => by rcases h with h | h; exact hsm h; exact h.1 hk0)
          clear HF HN HX HD hsm hk0
          go_wp2_with fail
          go_ret
          exact ⟨false, rfl, by simp only [Bool.false_eq_true, false_iff]; exact HR.out, rfl⟩
        · have hb0 : ((k : Int) == 0) = false := by simp [hk0]
          by_cases hdg : 48 ≤ x ∧ x ≤ 57
          · have hL := specIn_any x 48 57 w
            rw [show decide (48 ≤ x ∧ x ≤ 57) = true from by simp [hdg]] at hL
            have HRR : Hid (∀ (j : Nat) (h : j < s.size), j < k + 1 → ChOk j (s[j].toNat : Int)) := HN.out (.inr ⟨hk0, .inl hdg⟩)
            clear HN HF HX HD hsm hdg hk0
            go_wp2_with fail
            refine hL.mono ?_
            clear hL
            rintro e w' ⟨rfl, rfl⟩
            go_wp2_with fail
            go_round
            case rel => exact ⟨k + 1, by omega, by go_num, HRR⟩
            case measure => simp [intOf]; omega
          · have hL := specIn_any x 48 57 w
            rw [show decide (48 ≤ x ∧ x ≤ 57) = false from by simp; omega] at hL
            by_cases hu : x = 95
            · have hub : (x != 95) = false := by simp [hu]
              have HRR : Hid (∀ (j : Nat) (h : j < s.size), j < k + 1 → ChOk j (s[j].toNat : Int)) := HN.out (.inr ⟨hk0, .inr hu⟩)
              clear HN HF HX HD hsm hdg hk0 hu
              go_wp2_with fail
              refine hL.mono ?_
              clear hL
              rintro e w' ⟨rfl, rfl⟩
              go_wp2_with fail
              go_round
              case rel => exact ⟨k + 1, by omega, by go_num, HRR⟩
              case measure => simp [intOf]; omega
            · have hub : (x != 95) = true := by simp [hu]
              have HR : Hid (¬ AtomP s) := HF.out (fun h => by rcases h with h | ⟨_, h | h⟩; exact hsm h; exact hdg h; exact hu h)
              clear HF HN HX HD hsm hdg hk0 hu
              go_wp2_with fail
              refine hL.mono ?_
              clear hL
              rintro e w' ⟨rfl, rfl⟩
              go_wp2_with fail
              go_ret
              exact ⟨false, rfl, by simp only [Bool.false_eq_true, false_iff]; exact HR.out, rfl⟩
    · have hL := specIn_any s.size 1 20 w
      go_wp2_with fail
      refine hL.mono ?_
      clear hL
      rintro e w' ⟨rfl, rfl⟩
      have HF : Hid ((decide (1 ≤ (s.size : Int)) && decide ((s.size : Int) ≤ 20)) = true ↔ AtomP s) := by
        show _ ↔ _
        rw [Bool.and_eq_true, decide_eq_true_iff, decide_eq_true_iff]
        exact ⟨fun h => ⟨fun j hj => HD.out j hj (by omega), by omega, by omega⟩, fun h => ⟨by have := h.2.1; omega, by have := h.2.2; omega⟩⟩
      go_wp2
      go_ret
      exact ⟨_, rfl, HF.out, rfl⟩

/-- A term that is right, all but what is in it. -/
def Shape (k n : Int) (s : ByteArray) (len : Nat) : Prop :=
  (k = 1 ∧ (-1000000000000 ≤ n ∧ n ≤ 1000000000000) ∧ s.size = 0 ∧ len = 0) ∨ (k = 2 ∧ AtomP s ∧ n = 0 ∧ len = 0) ∨ (k = 3 ∧ (0 ≤ n ∧ n ≤ 1000000) ∧ s.size = 0 ∧ len = 0) ∨ (k = 4 ∧ n = 0 ∧ s.size = 0 ∧ len ≤ 20) ∨ (k = 5 ∧ n = 0 ∧ s.size = 0 ∧ len ≤ 60)

theorem shape1 (n : Int) (s : ByteArray) (len : Nat) : Shape 1 n s len ↔ (-1000000000000 ≤ n ∧ n ≤ 1000000000000) ∧ s.size = 0 ∧ len = 0 := by simp [Shape]
theorem shape2 (n : Int) (s : ByteArray) (len : Nat) : Shape 2 n s len ↔ AtomP s ∧ n = 0 ∧ len = 0 := by simp [Shape]
theorem shape3 (n : Int) (s : ByteArray) (len : Nat) : Shape 3 n s len ↔ (0 ≤ n ∧ n ≤ 1000000) ∧ s.size = 0 ∧ len = 0 := by simp [Shape]
theorem shape4 (n : Int) (s : ByteArray) (len : Nat) : Shape 4 n s len ↔ n = 0 ∧ s.size = 0 ∧ len ≤ 20 := by simp [Shape]
theorem shape5 (n : Int) (s : ByteArray) (len : Nat) : Shape 5 n s len ↔ n = 0 ∧ s.size = 0 ∧ len ≤ 60 := by simp [Shape]

theorem empty_iff (s : ByteArray) : s.toList.isEmpty = true ↔ s.size = 0 := by
  rw [ByteArray.toList_eq, List.isEmpty_iff, Array.toList_eq_nil_iff]
  exact ⟨fun h => by show s.data.size = 0; rw [h]; rfl, fun h => Array.eq_empty_of_size_eq_zero h⟩
theorem empty_no {s : ByteArray} (h : ¬ s.size = 0) : s.toList.isEmpty = false := by
  cases h' : s.toList.isEmpty with
  | false => rfl
  | true => exact absurd ((empty_iff s).1 h') h

/-- The contract of the check of a shape. -/
def ShapeC (f : Nat) : Prop := ∀ (k n : Int) (s : ByteArray) (a : Option Addr) (len c : Nat) (w : World), s.size ≤ 9223372036854775807 → len ≤ 9223372036854775807 →
  Calls Try.prog f #[.agg #[.int .i64 k, .int .i64 n, .string s, .slice a len c]] w fun e w' => ∃ b : Bool, e = .returned (.bool b) ∧ (b = true ↔ Shape k n s len) ∧ Below w.heap.size w w'

set_option maxHeartbeats 2000000 in
theorem specShape_any : ShapeC 31 := by
  intro k n s a len c w hs hlen
  have hA : Below w.heap.size w (w.alloc (.cells #[.int .i64 k, .int .i64 n, .string s, .slice a len c] 26)) := (Below.refl _ _).alloc (Nat.le_refl _) _
  by_cases h1 : k = 1
  · subst h1
    rw [shape1]
    have hL := specIn_any n (-1000000000000) 1000000000000 (w.alloc (.cells #[.int .i64 1, .int .i64 n, .string s, .slice a len c] 26))
    by_cases hn : -1000000000000 ≤ n ∧ n ≤ 1000000000000
    · rw [show decide (-1000000000000 ≤ n ∧ n ≤ 1000000000000) = true from by simp [hn]] at hL
      by_cases hse : s.size = 0
      · have he := (empty_iff s).2 hse
        by_cases hl0 : len = 0
        · have hlb : ((len : Int) == 0) = true := by simp [hl0]
          have HF : Hid ((-1000000000000 ≤ n ∧ n ≤ 1000000000000) ∧ s.size = 0 ∧ len = 0) := ⟨hn, hse, hl0⟩
          clear hn hse hl0
          go_enter Try.func31, Try.ntmps31
          go_wp2_with fail
          refine hL.mono ?_
          clear hL
          rintro e w' ⟨rfl, rfl⟩
          go_wp2_with fail
          go_ret
          exact ⟨true, rfl, iff_yes HF.out, hA⟩
        · have hlb : ((len : Int) == 0) = false := by simp [hl0]
          have HF : Hid (¬ ((-1000000000000 ≤ n ∧ n ≤ 1000000000000) ∧ s.size = 0 ∧ len = 0)) := fun h => hl0 h.2.2
          clear hn hse hl0
          go_enter Try.func31, Try.ntmps31
          go_wp2_with fail
          refine hL.mono ?_
          clear hL
          rintro e w' ⟨rfl, rfl⟩
          go_wp2_with fail
          go_ret
          exact ⟨false, rfl, iff_no HF.out, hA⟩
      · have he := empty_no hse
        have HF : Hid (¬ ((-1000000000000 ≤ n ∧ n ≤ 1000000000000) ∧ s.size = 0 ∧ len = 0)) := fun h => hse h.2.1
        clear hn hse
        go_enter Try.func31, Try.ntmps31
        go_wp2_with fail
        refine hL.mono ?_
        clear hL
        rintro e w' ⟨rfl, rfl⟩
        go_wp2_with fail
        go_ret
        exact ⟨false, rfl, iff_no HF.out, hA⟩
    · rw [show decide (-1000000000000 ≤ n ∧ n ≤ 1000000000000) = false from by simp; omega] at hL
      have HF : Hid (¬ ((-1000000000000 ≤ n ∧ n ≤ 1000000000000) ∧ s.size = 0 ∧ len = 0)) := fun h => hn h.1
      clear hn
      go_enter Try.func31, Try.ntmps31
      go_wp2_with fail
      refine hL.mono ?_
      clear hL
      rintro e w' ⟨rfl, rfl⟩
      go_wp2_with fail
      go_ret
      exact ⟨false, rfl, iff_no HF.out, hA⟩
  by_cases h2 : k = 2
  · subst h2
    rw [shape2]
    have hL := specAtomOk_any s (w.alloc (.cells #[.int .i64 2, .int .i64 n, .string s, .slice a len c] 26)) hs
    go_enter Try.func31, Try.ntmps31
    go_wp2_with fail
    refine hL.mono ?_
    clear hL
    rintro e w' ⟨b, rfl, hb, rfl⟩
    cases b
    · have HF : Hid (¬ (AtomP s ∧ n = 0 ∧ len = 0)) := fun h => by have := hb.2 h.1; cases this
      clear hb
      go_wp2_with fail
      go_ret
      exact ⟨false, rfl, iff_no HF.out, hA⟩
    · have HA : Hid (AtomP s) := hb.1 rfl
      clear hb
      by_cases hn : n = 0
      · have hnb : (n == 0) = true := by simp [hn]
        by_cases hl0 : len = 0
        · have hlb : ((len : Int) == 0) = true := by simp [hl0]
          have HF : Hid (AtomP s ∧ n = 0 ∧ len = 0) := ⟨HA.out, hn, hl0⟩
          clear hn hl0
          go_wp2_with fail
          go_ret
          exact ⟨true, rfl, iff_yes HF.out, hA⟩
        · have hlb : ((len : Int) == 0) = false := by simp [hl0]
          have HF : Hid (¬ (AtomP s ∧ n = 0 ∧ len = 0)) := fun h => hl0 h.2.2
          clear hn hl0
          go_wp2_with fail
          go_ret
          exact ⟨false, rfl, iff_no HF.out, hA⟩
      · have hnb : (n == 0) = false := by simp [hn]
        have HF : Hid (¬ (AtomP s ∧ n = 0 ∧ len = 0)) := fun h => hn h.2.1
        clear hn
        go_wp2_with fail
        go_ret
        exact ⟨false, rfl, iff_no HF.out, hA⟩
  by_cases h3 : k = 3
  · subst h3
    rw [shape3]
    have hL := specIn_any n (0) 1000000 (w.alloc (.cells #[.int .i64 3, .int .i64 n, .string s, .slice a len c] 26))
    by_cases hn : 0 ≤ n ∧ n ≤ 1000000
    · rw [show decide (0 ≤ n ∧ n ≤ 1000000) = true from by simp [hn]] at hL
      by_cases hse : s.size = 0
      · have he := (empty_iff s).2 hse
        by_cases hl0 : len = 0
        · have hlb : ((len : Int) == 0) = true := by simp [hl0]
          have HF : Hid ((0 ≤ n ∧ n ≤ 1000000) ∧ s.size = 0 ∧ len = 0) := ⟨hn, hse, hl0⟩
          clear hn hse hl0
          go_enter Try.func31, Try.ntmps31
          go_wp2_with fail
          refine hL.mono ?_
          clear hL
          rintro e w' ⟨rfl, rfl⟩
          go_wp2_with fail
          go_ret
          exact ⟨true, rfl, iff_yes HF.out, hA⟩
        · have hlb : ((len : Int) == 0) = false := by simp [hl0]
          have HF : Hid (¬ ((0 ≤ n ∧ n ≤ 1000000) ∧ s.size = 0 ∧ len = 0)) := fun h => hl0 h.2.2
          clear hn hse hl0
          go_enter Try.func31, Try.ntmps31
          go_wp2_with fail
          refine hL.mono ?_
          clear hL
          rintro e w' ⟨rfl, rfl⟩
          go_wp2_with fail
          go_ret
          exact ⟨false, rfl, iff_no HF.out, hA⟩
      · have he := empty_no hse
        have HF : Hid (¬ ((0 ≤ n ∧ n ≤ 1000000) ∧ s.size = 0 ∧ len = 0)) := fun h => hse h.2.1
        clear hn hse
        go_enter Try.func31, Try.ntmps31
        go_wp2_with fail
        refine hL.mono ?_
        clear hL
        rintro e w' ⟨rfl, rfl⟩
        go_wp2_with fail
        go_ret
        exact ⟨false, rfl, iff_no HF.out, hA⟩
    · rw [show decide (0 ≤ n ∧ n ≤ 1000000) = false from by simp; omega] at hL
      have HF : Hid (¬ ((0 ≤ n ∧ n ≤ 1000000) ∧ s.size = 0 ∧ len = 0)) := fun h => hn h.1
      clear hn
      go_enter Try.func31, Try.ntmps31
      go_wp2_with fail
      refine hL.mono ?_
      clear hL
      rintro e w' ⟨rfl, rfl⟩
      go_wp2_with fail
      go_ret
      exact ⟨false, rfl, iff_no HF.out, hA⟩
  by_cases h4 : k = 4
  · subst h4
    rw [shape4]
    by_cases hn : n = 0
    · have hnb : (n == 0) = true := by simp [hn]
      by_cases hse : s.size = 0
      · have he := (empty_iff s).2 hse
        by_cases hl0 : len ≤ 20
        · have HF : Hid (n = 0 ∧ s.size = 0 ∧ len ≤ 20) := ⟨hn, hse, hl0⟩
          have hlb : decide ((len : Int) ≤ 20) = true := by simp; omega
          clear hn hse hl0
          go_enter Try.func31, Try.ntmps31
          go_wp2_with fail
          go_ret
          exact ⟨true, rfl, iff_yes HF.out, hA⟩
        · have HF : Hid (¬ (n = 0 ∧ s.size = 0 ∧ len ≤ 20)) := fun h => hl0 h.2.2
          have hlb : decide ((len : Int) ≤ 20) = false := by simp; omega
          clear hn hse hl0
          go_enter Try.func31, Try.ntmps31
          go_wp2_with fail
          go_ret
          exact ⟨false, rfl, iff_no HF.out, hA⟩
      · have he := empty_no hse
        have HF : Hid (¬ (n = 0 ∧ s.size = 0 ∧ len ≤ 20)) := fun h => hse h.2.1
        clear hn hse
        go_enter Try.func31, Try.ntmps31
        go_wp2_with fail
        go_ret
        exact ⟨false, rfl, iff_no HF.out, hA⟩
    · have hnb : (n == 0) = false := by simp [hn]
      have HF : Hid (¬ (n = 0 ∧ s.size = 0 ∧ len ≤ 20)) := fun h => hn h.1
      clear hn
      go_enter Try.func31, Try.ntmps31
      go_wp2_with fail
      go_ret
      exact ⟨false, rfl, iff_no HF.out, hA⟩
  by_cases h5 : k = 5
  · subst h5
    rw [shape5]
    by_cases hn : n = 0
    · have hnb : (n == 0) = true := by simp [hn]
      by_cases hse : s.size = 0
      · have he := (empty_iff s).2 hse
        by_cases hl0 : len ≤ 60
        · have HF : Hid (n = 0 ∧ s.size = 0 ∧ len ≤ 60) := ⟨hn, hse, hl0⟩
          have hlb : decide ((len : Int) ≤ 60) = true := by simp; omega
          clear hn hse hl0
          go_enter Try.func31, Try.ntmps31
          go_wp2_with fail
          go_ret
          exact ⟨true, rfl, iff_yes HF.out, hA⟩
        · have HF : Hid (¬ (n = 0 ∧ s.size = 0 ∧ len ≤ 60)) := fun h => hl0 h.2.2
          have hlb : decide ((len : Int) ≤ 60) = false := by simp; omega
          clear hn hse hl0
          go_enter Try.func31, Try.ntmps31
          go_wp2_with fail
          go_ret
          exact ⟨false, rfl, iff_no HF.out, hA⟩
      · have he := empty_no hse
        have HF : Hid (¬ (n = 0 ∧ s.size = 0 ∧ len ≤ 60)) := fun h => hse h.2.1
        clear hn hse
        go_enter Try.func31, Try.ntmps31
        go_wp2_with fail
        go_ret
        exact ⟨false, rfl, iff_no HF.out, hA⟩
    · have hnb : (n == 0) = false := by simp [hn]
      have HF : Hid (¬ (n = 0 ∧ s.size = 0 ∧ len ≤ 60)) := fun h => hn h.1
      clear hn
      go_enter Try.func31, Try.ntmps31
      go_wp2_with fail
      go_ret
      exact ⟨false, rfl, iff_no HF.out, hA⟩
  have HF : Hid (¬ Shape k n s len) := fun h => by rcases h with h | h | h | h | h; exact h1 h.1; exact h2 h.1; exact h3 h.1; exact h4 h.1; exact h5 h.1
  have e1 : (k == 1) = false := by simp [h1]
  have e2 : (k == 2) = false := by simp [h2]
  have e3 : (k == 3) = false := by simp [h3]
  have e4 : (k == 4) = false := by simp [h4]
  have e5 : (k == 5) = false := by simp [h5]
  clear h1 h2 h3 h4 h5
  go_enter Try.func31, Try.ntmps31
  go_wp2_with fail
  go_ret
  exact ⟨false, rfl, iff_no HF.out, hA⟩

end Go.Proofs.Ytbllnmafilabpaa

/- The law's own marks on terms, and whether they are held. -/
namespace Go.Proofs.Ytbllnmafilabpaa
open Go.RowKit
set_option linter.unusedVariables false

def mtF : Nat → Int → ByteArray → ByteArray
  | 0, _, s => s
  | f + 1, y, s => if 0 < y then mtF f (y / 10) (strOfNums [48 + y % 10] ++ s) else s

/-- The text of a mark. -/
def mt (k : Int) : ByteArray := if k ≤ 0 then ⟨#[109, 48]⟩ else ⟨#[109]⟩ ++ mtF k.toNat k ⟨#[]⟩

theorem mtF_more : ∀ (f g : Nat) (y : Int) (s : ByteArray), y.toNat ≤ f → y.toNat ≤ g → mtF f y s = mtF g y s := by
  intro f
  induction f with
  | zero =>
    intro g y s hf _
    cases g with
    | zero => rfl
    | succ g => rw [mtF, mtF, if_neg (by omega)]
  | succ f ih =>
    intro g y s hf hg
    cases g with
    | zero => rw [mtF, mtF, if_neg (by omega)]
    | succ g =>
      rw [mtF, mtF]
      by_cases h : 0 < y
      · rw [if_pos h, if_pos h, ih g (y / 10) _ (by omega) (by omega)]
      · rw [if_neg h, if_neg h]

theorem mtF_go (y : Int) (s : ByteArray) (h : 0 < y) : mtF y.toNat y s = mtF (y / 10).toNat (y / 10) (strOfNums [48 + y % 10] ++ s) := by
  obtain ⟨f, hf⟩ : ∃ f, y.toNat = f + 1 := ⟨y.toNat - 1, by omega⟩
  rw [hf, mtF, if_pos h]
  exact mtF_more _ _ _ _ (by omega) (by omega)
theorem mtF_end (y : Int) (s : ByteArray) (h : ¬ 0 < y) : mtF y.toNat y s = s := by
  rw [show y.toNat = 0 from by omega]; rfl

def markList {α : Type} (f : Int → α → α × Int) : Int → List α → List α × Int
  | k, [] => ([], k)
  | k, t :: r => ((f k t).1 :: (markList f (f k t).2 r).1, (markList f (f k t).2 r).2)

/-- The marks on a list of terms from k on, and the next mark. -/
def markL : (d : Nat) → Int → List (Tm d) → List (Tm d) × Int
  | 0, k, ts => (ts, k)
  | d + 1, k, ts => markList (fun k t => (((k, k + 1, mt (k + 2), (markL d (k + 3) t.L).1) : Int × Int × ByteArray × List (Tm d)), (markL d (k + 3) t.L).2)) k ts

/-- A term marked from k on. -/
def markT (d : Nat) (k : Int) (t : Tm (d + 1)) : Tm (d + 1) := (k, k + 1, mt (k + 2), (markL d (k + 3) t.L).1)

theorem markList_len {α : Type} (f : Int → α → α × Int) : ∀ (ts : List α) (k : Int), (markList f k ts).1.length = ts.length := by
  intro ts
  induction ts with
  | nil => intro k; rfl
  | cons t r ih => intro k; show ((f k t).1 :: _).length = _; simp [ih]

theorem markL_next : ∀ (d : Nat) (k : Int) (ts : List (Tm d)), (markL d k ts).2 = k + 3 * (cntL d ts : Nat) := by
  intro d
  induction d with
  | zero => intro k ts; show k = k + 3 * ((0 : Nat) : Int); omega
  | succ d ih =>
    intro k ts
    show (markList _ k ts).2 = k + 3 * ((ts.map fun t => 1 + cntL d t.L).sum : Nat)
    induction ts generalizing k with
    | nil => show k = _; simp
    | cons t r ih2 =>
      show (markList _ _ r).2 = _
      rw [ih2, ih]
      simp only [List.map_cons, List.sum_cons]
      omega

theorem markL_at (d : Nat) : ∀ (ts : List (Tm (d + 1))) (k : Int) (j : Nat), (markL (d + 1) k ts).1[j]? = (ts[j]?).map (markT d (k + 3 * (cntP d ts j : Nat))) := by
  intro ts
  induction ts with
  | nil => intro k j; rfl
  | cons t r ih =>
    intro k j
    cases j with
    | zero =>
      show some (markT d k t) = some (markT d (k + 3 * ((0 : Nat) : Int)) t)
      rw [show k + 3 * ((0 : Nat) : Int) = k from by omega]
    | succ j =>
      have h := ih ((markL d (k + 3) t.L).2) j
      have e : cntP d (t :: r) (j + 1) = (1 + cntL d t.L) + cntP d r j := by unfold cntP; simp
      rw [markL_next] at h
      show (markL (d + 1) ((markL d (k + 3) t.L).2) r).1[j]? = _
      rw [markL_next, h, e]
      simp only [List.getElem?_cons_succ]
      congr 2
      omega

/-- Only the blocks of fp were written; new ones may have come. -/
structure Wrote (fp : List Nat) (w w' : World) : Prop where
  os : w'.os = w.os
  tape : w'.tape = w.tape
  output : w'.output = w.output
  size : w.heap.size ≤ w'.heap.size
  block : ∀ g, g < w.heap.size → g ∉ fp → w'.heap[g]? = w.heap[g]?

theorem Wrote.refl (fp : List Nat) (w : World) : Wrote fp w w := ⟨rfl, rfl, rfl, Nat.le_refl _, fun _ _ _ => rfl⟩
theorem Wrote.trans {fp : List Nat} {a b c : World} (h : Wrote fp a b) (k : Wrote fp b c) : Wrote fp a c :=
  ⟨k.os.trans h.os, k.tape.trans h.tape, k.output.trans h.output, Nat.le_trans h.size k.size, fun g hg hn => (k.block g (Nat.lt_of_lt_of_le hg h.size) hn).trans (h.block g hg hn)⟩
theorem Wrote.mono {fp fq : List Nat} {a b : World} (h : Wrote fp a b) (hs : ∀ g ∈ fp, g ∈ fq) : Wrote fq a b := ⟨h.os, h.tape, h.output, h.size, fun g hg hn => h.block g hg fun h2 => hn (hs g h2)⟩
theorem Wrote.of_below {fp : List Nat} {a b : World} (h : Below a.heap.size a b) : Wrote fp a b := ⟨h.os, h.tape, h.output, h.size, fun g hg _ => h.block g hg⟩
theorem Wrote.of_set (w : World) (g o : Nat) (v : Value) : Wrote [g] w (w.setCell ⟨g, o, none⟩ v) :=
  ⟨rfl, rfl, rfl, by simp, fun j _ hn => heap_setCell_other w ⟨g, o, none⟩ j v (by simpa using hn)⟩

theorem OwnL.lt : ∀ {d : Nat} {w : World} {v : Value} {ts : List (Tm d)} {fp : List Nat}, OwnL d w v ts fp → ∀ g ∈ fp, g < w.heap.size := by
  intro d
  induction d with
  | zero => intro w v ts fp h g hg; rw [h.2] at hg; cases hg
  | succ d ih =>
    intro w v ts fp h g hg
    rcases h with ⟨_, rfl, _⟩ | ⟨g0, c, cur, fps, h1, h2, h3, rfl, h4⟩
    · cases hg
    · rcases List.mem_cons.1 hg with rfl | hg
      · exact Nat.lt_of_not_le fun hn => by simp [Array.getElem?_eq_none hn] at h2
      · obtain ⟨f, hf, hgf⟩ := List.mem_flatten.1 hg
        obtain ⟨i, hi, e⟩ := List.getElem_of_mem hf
        obtain ⟨t, ht⟩ : ∃ t, ts[i]? = some t := ⟨_, List.getElem?_eq_getElem (by omega)⟩
        obtain ⟨lv, f', e1, _, _, _, _, e6⟩ := h4 i t ht
        rw [List.getElem?_eq_getElem hi, e] at e1
        cases e1
        exact ih e6 g hgf

/-- The contract of the marks on a list. -/
def MkS (f d : Nat) : Prop := ∀ (v : Value) (ts : List (Tm d)) (fp : List Nat) (k : Int) (w : World), OwnL d w v ts fp → fp.Nodup → 0 ≤ k → k + 3 * (cntL d ts : Nat) ≤ 1099511627776 →
  Calls Try.prog f #[v, .int .i64 k] w fun e w' => e = .returned (.int .i64 (k + 3 * (cntL d ts : Nat))) ∧ OwnL d w' v (markL d k ts).1 fp ∧ Wrote fp w w'

/-- The first j terms of a row are marked, the others are as they were. -/
def Half (d : Nat) (ts : List (Tm (d + 1))) (k : Int) (j : Nat) (w : World) (cur : Array Value) (fps : List (List Nat)) : Prop :=
  ∀ (i : Nat) (t : Tm (d + 1)), ts[i]? = some t → ∃ lv f, fps[i]? = some f ∧
    (i < j → cur[i * 4]? = some (.int .i64 (k + 3 * (cntP d ts i : Nat))) ∧ cur[i * 4 + 1]? = some (.int .i64 (k + 3 * (cntP d ts i : Nat) + 1)) ∧ cur[i * 4 + 2]? = some (.string (mt (k + 3 * (cntP d ts i : Nat) + 2))) ∧ cur[i * 4 + 3]? = some lv ∧ OwnL d w lv (markL d (k + 3 * (cntP d ts i : Nat) + 3) t.L).1 f) ∧
    (j ≤ i → cur[i * 4]? = some (.int .i64 t.K) ∧ cur[i * 4 + 1]? = some (.int .i64 t.N) ∧ cur[i * 4 + 2]? = some (.string t.S) ∧ cur[i * 4 + 3]? = some lv ∧ OwnL d w lv t.L f)

theorem nodup_fl : ∀ (fps : List (List Nat)), fps.flatten.Nodup → (∀ f ∈ fps, f.Nodup) ∧ ∀ (i j : Nat) (f f' : List Nat), i < j → fps[i]? = some f → fps[j]? = some f' → ∀ x ∈ f, x ∉ f' := by
  intro fps
  induction fps with
  | nil => intro _; exact ⟨(fun f hf => by cases hf), (fun i j f f' _ h => by simp at h)⟩
  | cons a r ih =>
    intro h
    rw [List.flatten_cons, List.nodup_append] at h
    obtain ⟨h1, h2⟩ := ih h.2.1
    refine ⟨fun f hf => ?_, fun i j f f' hij hi hj x hx hx' => ?_⟩
    · rcases List.mem_cons.1 hf with rfl | hf
      · exact h.1
      · exact h1 f hf
    · cases j with
      | zero => omega
      | succ j =>
        simp only [List.getElem?_cons_succ] at hj
        cases i with
        | zero =>
          simp only [List.getElem?_cons_zero, Option.some.injEq] at hi
          subst hi
          exact h.2.2 x hx x (List.mem_flatten.2 ⟨f', List.mem_of_getElem? hj, hx'⟩) rfl
        | succ i =>
          simp only [List.getElem?_cons_succ] at hi
          exact h2 i j f f' (by omega) hi hj x hx hx'

theorem mk_step {d : Nat} {ts : List (Tm (d + 1))} {k : Int} {j g : Nat} {wr V V2 : World} {cur cur3 : Array Value} {fps : List (List Nat)} {t : Tm (d + 1)} {lv : Value} {f : List Nat}
    (hH : Half d ts k j wr cur fps) (ht : ts[j]? = some t) (hf : fps[j]? = some f) (hlv : cur[j * 4 + 3]? = some lv) (hnd : (g :: fps.flatten).Nodup)
    (hV : ∀ x, x < wr.heap.size → x ≠ g → V.heap[x]? = wr.heap[x]?) (hW : Wrote f V V2) (hVs : wr.heap.size ≤ V.heap.size) (hown : OwnL d V2 lv (markL d (k + 3 * (cntP d ts j : Nat) + 3) t.L).1 f)
    (c0 : cur3[j * 4]? = some (.int .i64 (k + 3 * (cntP d ts j : Nat)))) (c1 : cur3[j * 4 + 1]? = some (.int .i64 (k + 3 * (cntP d ts j : Nat) + 1))) (c2 : cur3[j * 4 + 2]? = some (.string (mt (k + 3 * (cntP d ts j : Nat) + 2))))
    (c3 : ∀ x, x < j * 4 ∨ j * 4 + 2 < x → cur3[x]? = cur[x]?) : Half d ts k (j + 1) V2 cur3 fps := by
  have hg : ∀ (i : Nat) (f' : List Nat), fps[i]? = some f' → g ∉ f' := fun i f' h hm => (List.nodup_cons.1 hnd).1 (List.mem_flatten.2 ⟨f', List.mem_of_getElem? h, hm⟩)
  have hdis : ∀ (i : Nat) (f' : List Nat), fps[i]? = some f' → i ≠ j → ∀ x ∈ f', x ∉ f := by
    intro i f' h hij x hx hxf
    have hp := (nodup_fl fps (List.nodup_cons.1 hnd).2).2
    rcases Nat.lt_or_gt_of_ne hij with hlt | hlt
    · exact hp i j f' f hlt h hf x hx hxf
    · exact hp j i f f' hlt hf h x hxf hx
  have keep : ∀ (i : Nat) (f' : List Nat) (lv' : Value) (l : List (Tm d)), fps[i]? = some f' → i ≠ j → OwnL d wr lv' l f' → OwnL d V2 lv' l f' := by
    intro i f' lv' l h hij ho
    refine ho.frame fun x hx => ?_
    have hxs := ho.lt x hx
    rw [hW.block x (by omega) (hdis i f' h hij x hx), hV x hxs (fun e => hg i f' h (e ▸ hx))]
  intro i u hu
  by_cases hij : i = j
  · subst hij
    rw [ht] at hu
    obtain rfl := Option.some.inj hu
    exact ⟨lv, f, hf, fun _ => ⟨c0, c1, c2, by rw [c3 _ (by omega)]; exact hlv, hown⟩, fun h => by omega⟩
  · obtain ⟨lv', f', e1, e2, e3⟩ := hH i u hu
    refine ⟨lv', f', e1, fun hlt => ?_, fun hge => ?_⟩
    · obtain ⟨a0, a1, a2, a3, a4⟩ := e2 (by omega)
      exact ⟨by rw [c3 _ (by omega)]; exact a0, by rw [c3 _ (by omega)]; exact a1, by rw [c3 _ (by omega)]; exact a2, by rw [c3 _ (by omega)]; exact a3, keep i f' lv' _ e1 hij a4⟩
    · obtain ⟨a0, a1, a2, a3, a4⟩ := e3 (by omega)
      exact ⟨by rw [c3 _ (by omega)]; exact a0, by rw [c3 _ (by omega)]; exact a1, by rw [c3 _ (by omega)]; exact a2, by rw [c3 _ (by omega)]; exact a3, keep i f' lv' _ e1 hij a4⟩

end Go.Proofs.Ytbllnmafilabpaa

/- The law's own look whether the marks on terms are held. -/
namespace Go.Proofs.Ytbllnmafilabpaa
open Go.RowKit
set_option linter.unusedVariables false

/-- The contract of the look at a list. -/
def HdS (f d : Nat) : Prop := ∀ (v : Value) (ts : List (Tm d)) (k : Int) (w : World), RdL d w v (markL d k ts).1 → 0 ≤ k → k + 3 * (cntL d ts : Nat) ≤ 1099511627776 →
  Calls Try.prog f #[v, .int .i64 k] w fun e w' => e = .returned (.int .i64 (k + 3 * (cntL d ts : Nat))) ∧ Below w.heap.size w w'

theorem len_cntL (d : Nat) (ts : List (Tm (d + 1))) : ts.length ≤ cntL (d + 1) ts := by
  show ts.length ≤ (ts.map fun t => 1 + cntL d t.L).sum
  induction ts with
  | nil => simp
  | cons t r ih2 => simp only [List.length_cons, List.map_cons, List.sum_cons]; omega

end Go.Proofs.Ytbllnmafilabpaa
