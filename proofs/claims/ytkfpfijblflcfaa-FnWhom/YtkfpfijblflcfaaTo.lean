/- The law's own deep copy of terms: a tree in new memory, no block of which is met twice. -/
import Derived.Test.YtkfpfijblflcfaaTm
namespace Go.Proofs.Ytkfpfijblflcfaa
open Go.RowKit

/-- A value that is a slice of the terms ts, in blocks fp of the call's own. -/
def OwnL : (d : Nat) → World → Value → List (Tm d) → List Nat → Prop
  | 0, _, v, _, fp => (∃ a c, v = .slice a 0 c) ∧ fp = []
  | d + 1, w, v, ts, fp => (ts = [] ∧ fp = [] ∧ ∃ a c, v = .slice a 0 c) ∨
      ∃ (g c : Nat) (cur : Array Value) (fps : List (List Nat)), v = .slice (some ⟨g, 0, none⟩) ts.length c ∧ w.heap[g]? = some (.cells cur 41 (0, 0)) ∧ fps.length = ts.length ∧ fp = g :: fps.flatten ∧
        ∀ (i : Nat) (t : Tm (d + 1)), ts[i]? = some t → ∃ lv f, fps[i]? = some f ∧ cur[i * 4]? = some (.int .i64 t.K) ∧ cur[i * 4 + 1]? = some (.int .i64 t.N) ∧ cur[i * 4 + 2]? = some (.string t.S) ∧ cur[i * 4 + 3]? = some lv ∧ OwnL d w lv t.L f

/-- The blocks are all unlike, and none is older than B. -/
def Fresh (B : Nat) (w : World) (fp : List Nat) : Prop := fp.Nodup ∧ ∀ g ∈ fp, B ≤ g ∧ g < w.heap.size

theorem OwnL.frame : ∀ {d : Nat} {w w' : World} {v : Value} {ts : List (Tm d)} {fp : List Nat}, OwnL d w v ts fp → (∀ g ∈ fp, w'.heap[g]? = w.heap[g]?) → OwnL d w' v ts fp := by
  intro d
  induction d with
  | zero => intro w w' v ts fp h _; exact h
  | succ d ih =>
    intro w w' v ts fp h hh
    rcases h with h | ⟨g, c, cur, fps, h1, h2, h3, rfl, h4⟩
    · exact .inl h
    · refine .inr ⟨g, c, cur, fps, h1, by rw [hh g (List.mem_cons_self ..)]; exact h2, h3, rfl, fun i t ht => ?_⟩
      obtain ⟨lv, f, e1, e2, e3, e4, e5, e6⟩ := h4 i t ht
      exact ⟨lv, f, e1, e2, e3, e4, e5, ih e6 fun k hk => hh k (List.mem_cons_of_mem _ (List.mem_flatten.2 ⟨f, List.mem_of_getElem? e1, hk⟩))⟩

theorem OwnL.rd : ∀ {d : Nat} {w : World} {v : Value} {ts : List (Tm d)} {fp : List Nat}, OwnL d w v ts fp → RdL d w v ts := by
  intro d
  induction d with
  | zero => intro w v ts fp h; exact h.1
  | succ d ih =>
    intro w v ts fp h
    rcases h with ⟨rfl, _, a, c, rfl⟩ | ⟨g, c, cur, fps, h1, h2, h3, rfl, h4⟩
    · exact ⟨a, c, rfl, fun i t ht => by simp at ht⟩
    · refine ⟨_, c, h1, fun i t ht => ?_⟩
      obtain ⟨lv, f, e1, e2, e3, e4, e5, e6⟩ := h4 i t ht
      refine ⟨g, 0, lv, rfl, ?_, ih e6⟩
      have hc := fun j => cell_of_row w g j cur 41 (0, 0) h2
      exact ⟨by rw [hc, ← e2, Nat.zero_add], by rw [hc, ← e3, Nat.zero_add], by rw [hc, ← e4, Nat.zero_add], by rw [hc, ← e5, Nat.zero_add]⟩

theorem bcell {W w1 : World} (hb : Below W.heap.size W w1) : (∀ b o, b < W.heap.size → w1.cell? ⟨b, o, none⟩ = W.cell? ⟨b, o, none⟩) ∧ (∀ b o, b < W.heap.size → w1.frozen? ⟨b, o, none⟩ = W.frozen? ⟨b, o, none⟩) :=
  ⟨fun b o h => hb.cell (p := ⟨b, o, none⟩) h, fun b o h => hb.frozen (p := ⟨b, o, none⟩) h⟩

/-- Four cells of a row written anew. -/
def put4 (cur : Array Value) (o : Nat) (a b c d : Value) : Array Value := (((cur.setIfInBounds o a).setIfInBounds (o + 1) b).setIfInBounds (o + 2) c).setIfInBounds (o + 3) d

theorem put4_size (cur : Array Value) (o : Nat) (a b c d : Value) : (put4 cur o a b c d).size = cur.size := by simp [put4]
theorem put4_other (cur : Array Value) (o : Nat) (a b c d : Value) (j : Nat) (h : j < o ∨ o + 3 < j) : (put4 cur o a b c d)[j]? = cur[j]? := by
  unfold put4
  rw [Array.getElem?_setIfInBounds_ne (by omega), Array.getElem?_setIfInBounds_ne (by omega), Array.getElem?_setIfInBounds_ne (by omega), Array.getElem?_setIfInBounds_ne (by omega)]
theorem put4_at (cur : Array Value) (o : Nat) (a b c d : Value) (h : o + 3 < cur.size) : (put4 cur o a b c d)[o]? = some a ∧ (put4 cur o a b c d)[o + 1]? = some b ∧ (put4 cur o a b c d)[o + 2]? = some c ∧ (put4 cur o a b c d)[o + 3]? = some d := by
  unfold put4
  refine ⟨?_, ?_, ?_, ?_⟩
  · rw [Array.getElem?_setIfInBounds_ne (by omega), Array.getElem?_setIfInBounds_ne (by omega), Array.getElem?_setIfInBounds_ne (by omega), Array.getElem?_setIfInBounds_self]; simp; omega
  · rw [Array.getElem?_setIfInBounds_ne (by omega), Array.getElem?_setIfInBounds_ne (by omega), Array.getElem?_setIfInBounds_self]; simp; omega
  · rw [Array.getElem?_setIfInBounds_ne (by omega), Array.getElem?_setIfInBounds_self]; simp; omega
  · rw [Array.getElem?_setIfInBounds_self]; simp; omega

theorem stores4 (w : World) (g o : Nat) (cur : Array Value) (T : TypeId) (hh : w.heap[g]? = some (.cells cur T (0, 0))) (a b c d : Value) :
    ((((w.setCell ⟨g, o, none⟩ a).setCell ⟨g, o + 1, none⟩ b).setCell ⟨g, o + 2, none⟩ c).setCell ⟨g, o + 3, none⟩ d).heap[g]? = some (.cells (put4 cur o a b c d) T (0, 0)) ∧
    (∀ j, j ≠ g → ((((w.setCell ⟨g, o, none⟩ a).setCell ⟨g, o + 1, none⟩ b).setCell ⟨g, o + 2, none⟩ c).setCell ⟨g, o + 3, none⟩ d).heap[j]? = w.heap[j]?) := by
  constructor
  · exact heap_setCell_same _ g _ _ _ _ (heap_setCell_same _ g _ _ _ _ (heap_setCell_same _ g _ _ _ _ (heap_setCell_same w g _ _ _ _ hh)))
  · intro j hj
    rw [heap_setCell_other _ _ _ _ (by simp; omega), heap_setCell_other _ _ _ _ (by simp; omega), heap_setCell_other _ _ _ _ (by simp; omega), heap_setCell_other _ _ _ _ (by simp; omega)]

theorem stores4_below (w : World) (g o : Nat) (a b c d : Value) : Below g w ((((w.setCell ⟨g, o, none⟩ a).setCell ⟨g, o + 1, none⟩ b).setCell ⟨g, o + 2, none⟩ c).setCell ⟨g, o + 3, none⟩ d) := by
  have h1 := (Below.refl g w).setCell (p := ⟨g, o, none⟩) (Nat.le_refl g) a
  have h2 := h1.setCell (p := ⟨g, o + 1, none⟩) (Nat.le_refl g) b
  have h3 := h2.setCell (p := ⟨g, o + 2, none⟩) (Nat.le_refl g) c
  exact h3.setCell (p := ⟨g, o + 3, none⟩) (Nat.le_refl g) d
theorem stores4_size (w : World) (g o : Nat) (a b c d : Value) : ((((w.setCell ⟨g, o, none⟩ a).setCell ⟨g, o + 1, none⟩ b).setCell ⟨g, o + 2, none⟩ c).setCell ⟨g, o + 3, none⟩ d).heap.size = w.heap.size := by simp

theorem Try.infoTerm : (Try.prog.info? 41).map (fun i => (i.zero, i.size, i.bytes)) = some (some (.agg #[.int .i64 0, .int .i64 0, .string ⟨#[]⟩, .slice none 0 0]), 4, 56) := by kernel_rfl

/-- The first k terms of a list lie copied in the row at B. -/
def Done (d : Nat) (ts : List (Tm (d + 1))) (k : Nat) (w : World) (cur : Array Value) (fps : List (List Nat)) : Prop :=
  ∀ (i : Nat) (t : Tm (d + 1)), i < k → ts[i]? = some t → ∃ lv f, fps[i]? = some f ∧ cur[i * 4]? = some (.int .i64 t.K) ∧ cur[i * 4 + 1]? = some (.int .i64 t.N) ∧ cur[i * 4 + 2]? = some (.string t.S) ∧ cur[i * 4 + 3]? = some lv ∧ OwnL d w lv t.L f

theorem to_step {d : Nat} {ts : List (Tm (d + 1))} {B len k : Nat} {w wr w2 W : World} {cur : Array Value} {fps : List (List Nat)} {t : Tm (d + 1)} {lv : Value} {fp : List Nat}
    (hk : k < len) (hcs : cur.size = len * 4) (hfl : fps.length = k) (hnd : fps.flatten.Nodup) (hfr : ∀ g ∈ fps.flatten, B < g ∧ g < wr.heap.size) (hwz : B < wr.heap.size) (hb : Below B w wr) (hb2 : Below wr.heap.size wr w2)
    (hdone : Done d ts k wr cur fps) (ht : ts[k]? = some t) (hown : OwnL d w2 lv t.L fp) (hfr2 : Fresh wr.heap.size w2 fp)
    (hW1 : W.heap[B]? = some (.cells (put4 cur (k * 4) (.int .i64 t.K) (.int .i64 t.N) (.string t.S) lv) 41 (0, 0))) (hW2 : ∀ j, j ≠ B → W.heap[j]? = w2.heap[j]?) (hWs : W.heap.size = w2.heap.size) (hWb : Below B w2 W) :
    (put4 cur (k * 4) (.int .i64 t.K) (.int .i64 t.N) (.string t.S) lv).size = len * 4 ∧ (fps ++ [fp]).length = k + 1 ∧ (fps ++ [fp]).flatten.Nodup ∧ (∀ g ∈ (fps ++ [fp]).flatten, B < g ∧ g < W.heap.size) ∧ Below B w W ∧
      Done d ts (k + 1) W (put4 cur (k * 4) (.int .i64 t.K) (.int .i64 t.N) (.string t.S) lv) (fps ++ [fp]) := by
  have hmem : ∀ g ∈ fps.flatten, g < wr.heap.size := fun g hg => (hfr g hg).2
  refine ⟨by rw [put4_size, hcs], by simp [hfl], ?_, ?_, (hb.trans (hb2.mono (by omega))).trans hWb, ?_⟩
  · rw [List.flatten_append, List.flatten_singleton, List.nodup_append]
    exact ⟨hnd, hfr2.1, fun a ha b hb e => by have := hmem a ha; have := (hfr2.2 b hb).1; omega⟩
  · intro g hg
    rw [List.flatten_append, List.flatten_singleton, List.mem_append] at hg
    rw [hWs]
    rcases hg with hg | hg
    · have := hfr g hg; have := hb2.size; omega
    · have := hfr2.2 g hg; omega
  · intro i u hi hu
    by_cases hik : i < k
    · obtain ⟨lv', f, e1, e2, e3, e4, e5, e6⟩ := hdone i u hik hu
      refine ⟨lv', f, by rw [List.getElem?_append_left (by omega)]; exact e1, by rw [put4_other _ _ _ _ _ _ _ (by omega)]; exact e2, by rw [put4_other _ _ _ _ _ _ _ (by omega)]; exact e3, by rw [put4_other _ _ _ _ _ _ _ (by omega)]; exact e4, by rw [put4_other _ _ _ _ _ _ _ (by omega)]; exact e5, e6.frame fun g hg => ?_⟩
      have hgf : g ∈ fps.flatten := List.mem_flatten.2 ⟨f, List.mem_of_getElem? e1, hg⟩
      have := hfr g hgf
      rw [hW2 g (by omega), hb2.block g (by omega)]
    · obtain rfl : i = k := by omega
      rw [ht] at hu
      obtain rfl := Option.some.inj hu
      have h4 := put4_at cur (i * 4) (.int .i64 t.K) (.int .i64 t.N) (.string t.S) lv (by omega)
      refine ⟨lv, fp, by rw [List.getElem?_append_right (by omega), hfl]; simp, h4.1, h4.2.1, h4.2.2.1, h4.2.2.2, hown.frame fun g hg => ?_⟩
      have := (hfr2.2 g hg).1
      exact hW2 g (by omega)

end Go.Proofs.Ytkfpfijblflcfaa
