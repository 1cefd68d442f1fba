/- The law's own deep copy of terms: a tree in new memory, no block of which is met twice. -/
import Derived.Test.YtgmddookohkhlaaTm
namespace Go.Proofs.Ytgmddookohkhlaa
open Go.RowKit

/-- A value that is a slice of the terms ts, in blocks fp of the call's own. -/
def OwnL : (d : Nat) → World → Value → List (Tm d) → List Nat → Prop
  | 0, _, v, _, fp => (∃ a c, v = .slice a 0 c) ∧ fp = []
  | d + 1, w, v, ts, fp => (ts = [] ∧ fp = [] ∧ ∃ a c, v = .slice a 0 c) ∨
      ∃ (g c : Nat) (cur : Array Value) (fps : List (List Nat)), v = .slice (some ⟨g, 0, none⟩) ts.length c ∧ w.heap[g]? = some (.cells cur 53 (0, 0)) ∧ fps.length = ts.length ∧ fp = g :: fps.flatten ∧
        ∀ (i : Nat) (t : Tm (d + 1)), ts[i]? = some t → ∃ lv f, fps[i]? = some f ∧ cur[i * 4]? = some (.int .i64 t.K) ∧ cur[i * 4 + 1]? = some (.int .i64 t.N) ∧ cur[i * 4 + 2]? = some (.string t.S) ∧ cur[i * 4 + 3]? = some lv ∧ OwnL d w lv t.L f

/-- The blocks are all unlike, and none is older than B. -/
def Fresh (B : Nat) (w : World) (fp : List Nat) : Prop := fp.Nodup ∧ ∀ g ∈ fp, B ≤ g ∧ g < w.heap.size

theorem OwnL.frame : ∀ {d : Nat} {w w' : World} {v : Value} {ts : List (Tm d)} {fp : List Nat}, OwnL d w v ts fp → (∀ g ∈ fp, w'.heap[g]? = w.heap[g]?) → OwnL d w' v ts fp := by
  intro d
  induction d with
  | zero => intro w w' v ts fp h _; exact h
  | succ d ih =>
    intro w w' v ts fp h hh
    rcases h with h | ⟨g, c, cur, fps, h1, h2, h3, rfl, h4⟩
    · exact .inl h
    · refine .inr ⟨g, c, cur, fps, h1, by rw [hh g (List.mem_cons_self ..)]; exact h2, h3, rfl, fun i t ht => ?_⟩
      obtain ⟨lv, f, e1, e2, e3, e4, e5, e6⟩ := h4 i t ht
      exact ⟨lv, f, e1, e2, e3, e4, e5, ih e6 fun k hk => hh k (List.mem_cons_of_mem _ (List.mem_flatten.2 ⟨f, List.mem_of_getElem? e1, hk⟩))⟩

theorem OwnL.rd : ∀ {d : Nat} {w : World} {v : Value} {ts : List (Tm d)} {fp : List Nat}, OwnL d w v ts fp → RdL d w v ts := by
  intro d
  induction d with
  | zero => intro w v ts fp h; exact h.1
  | succ d ih =>
    intro w v ts fp h
    rcases h with ⟨rfl, _, a, c, rfl⟩ | ⟨g, c, cur, fps, h1, h2, h3, rfl, h4⟩
    · exact ⟨a, c, rfl, fun i t ht => by simp at ht⟩
    · refine ⟨_, c, h1, fun i t ht => ?_⟩
      obtain ⟨lv, f, e1, e2, e3, e4, e5, e6⟩ := h4 i t ht
      refine ⟨g, 0, lv, rfl, ?_, ih e6⟩
      have hc := fun j => cell_of_row w g j cur 53 (0, 0) h2
      exact ⟨by rw [hc, ← e2, Nat.zero_add], by rw [hc, ← e3, Nat.zero_add], by rw [hc, ← e4, Nat.zero_add], by rw [hc, ← e5, Nat.zero_add]⟩

/-- The contract of the copy of a list. -/
def ToS (d : Nat) : Prop := ∀ (v : Value) (ts : List (Tm d)) (w : World), RdL d w v ts → WfL d ts → szL d ts ≤ 1048576 →
  Calls Try.prog 92 #[v] w fun e w' => ∃ a l c fp, e = .returned (.slice a l c) ∧ OwnL d w' (.slice a l c) ts fp ∧ Fresh w.heap.size w' fp ∧ Below w.heap.size w w'

theorem bcell {W w1 : World} (hb : Below W.heap.size W w1) : (∀ b o, b < W.heap.size → w1.cell? ⟨b, o, none⟩ = W.cell? ⟨b, o, none⟩) ∧ (∀ b o, b < W.heap.size → w1.frozen? ⟨b, o, none⟩ = W.frozen? ⟨b, o, none⟩) :=
  ⟨fun b o h => hb.cell (p := ⟨b, o, none⟩) h, fun b o h => hb.frozen (p := ⟨b, o, none⟩) h⟩

set_option maxHeartbeats 1000000 in
theorem toTerm_of (d : Nat) (H : ToS d) (k n : Int) (s : ByteArray) (lv : Value) (ts : List (Tm d)) (w : World) (hr : RdL d w lv ts) (hw : WfL d ts) (hz : szL d ts ≤ 1048576) :
    Calls Try.prog 78 #[.agg #[.int .i64 k, .int .i64 n, .string s, lv]] w fun e w' => ∃ a l c fp, e = .returned (.agg #[.int .i64 k, .int .i64 n, .string s, .slice a l c]) ∧ OwnL d w' (.slice a l c) ts fp ∧ Fresh w.heap.size w' fp ∧ Below w.heap.size w w' := by
  obtain ⟨W, hW⟩ : ∃ W, W = (((w.alloc (.cells #[.int .i64 k, .int .i64 n, .string s, lv] 77)).alloc (.cells #[.int .i64 0, .int .i64 0, .string ⟨#[]⟩, .slice none 0 0] 53)).alloc (.cells #[.int .i64 k, .int .i64 n, .string s, .slice none 0 0] 53)) := ⟨_, rfl⟩
  have hWs : W.heap.size = w.heap.size + 1 + 1 + 1 := by rw [hW]; simp
  have hWb : Below w.heap.size w W := by rw [hW]; exact (((Below.refl _ _).alloc (Nat.le_refl _) _).alloc (by simp) _).alloc (by simp; omega) _
  have hWc2 : W.heap[w.heap.size + 1 + 1]? = some (.cells #[.int .i64 k, .int .i64 n, .string s, .slice none 0 0] 53 (0, 0)) := by
    rw [hW]; have := heap_alloc_new ((w.alloc (.cells #[.int .i64 k, .int .i64 n, .string s, lv] 77)).alloc (.cells #[.int .i64 0, .int .i64 0, .string ⟨#[]⟩, .slice none 0 0] 53)) (.cells #[.int .i64 k, .int .i64 n, .string s, .slice none 0 0] 53)
    simpa using this
  have hWc1 : W.heap[w.heap.size + 1]? = some (.cells #[.int .i64 0, .int .i64 0, .string ⟨#[]⟩, .slice none 0 0] 53 (0, 0)) := by
    rw [hW, Below.heap_alloc _ _ _ (by simp)]
    have := heap_alloc_new (w.alloc (.cells #[.int .i64 k, .int .i64 n, .string s, lv] 77)) (.cells #[.int .i64 0, .int .i64 0, .string ⟨#[]⟩, .slice none 0 0] 53)
    simpa using this
  have hC := H lv ts W (hr.later hWb) hw hz
  rw [hW] at hC
  have HW : Hid (W = _) := hW
  clear hW hr hw H
  go_enter Try.func78, Try.ntmps78
  go_wp2_with fail
  refine hC.mono ?_
  clear hC
  rintro e w1 ⟨a', l', c', fp, rfl, hown, hfr, hb⟩
  rw [← HW.out] at hfr hb
  have hh2 : w1.heap[w.heap.size + 1 + 1]? = _ := (hb.block _ (by omega)).trans hWc2
  have hh1 : w1.heap[w.heap.size + 1]? = _ := (hb.block _ (by omega)).trans hWc1
  have a0 : w1.cell? ⟨w.heap.size + 1 + 1, 0, none⟩ = some (.int .i64 k) := by rw [cell_of_row w1 _ 0 _ _ _ hh2]; rfl
  have a1 : w1.cell? ⟨w.heap.size + 1 + 1, 1, none⟩ = some (.int .i64 n) := by rw [cell_of_row w1 _ 1 _ _ _ hh2]; rfl
  have a2 : w1.cell? ⟨w.heap.size + 1 + 1, 2, none⟩ = some (.string s) := by rw [cell_of_row w1 _ 2 _ _ _ hh2]; rfl
  have a3 : w1.cell? ⟨w.heap.size + 1 + 1, 3, none⟩ = some (.slice none 0 0) := by rw [cell_of_row w1 _ 3 _ _ _ hh2]; rfl
  have z3 : w1.frozen? ⟨w.heap.size + 1 + 1, 3, none⟩ = false := frozen_of_row w1 _ 3 _ _ hh2
  have b0 : w1.cell? ⟨w.heap.size + 1, 0, none⟩ = some (.int .i64 0) := by rw [cell_of_row w1 _ 0 _ _ _ hh1]; rfl
  have b1 : w1.cell? ⟨w.heap.size + 1, 1, none⟩ = some (.int .i64 0) := by rw [cell_of_row w1 _ 1 _ _ _ hh1]; rfl
  have b2 : w1.cell? ⟨w.heap.size + 1, 2, none⟩ = some (.string ⟨#[]⟩) := by rw [cell_of_row w1 _ 2 _ _ _ hh1]; rfl
  have b3 : w1.cell? ⟨w.heap.size + 1, 3, none⟩ = some (.slice none 0 0) := by rw [cell_of_row w1 _ 3 _ _ _ hh1]; rfl
  have y0 : w1.frozen? ⟨w.heap.size + 1, 0, none⟩ = false := frozen_of_row w1 _ 0 _ _ hh1
  have y1 : w1.frozen? ⟨w.heap.size + 1, 1, none⟩ = false := frozen_of_row w1 _ 1 _ _ hh1
  have y2 : w1.frozen? ⟨w.heap.size + 1, 2, none⟩ = false := frozen_of_row w1 _ 2 _ _ hh1
  have y3 : w1.frozen? ⟨w.heap.size + 1, 3, none⟩ = false := frozen_of_row w1 _ 3 _ _ hh1
  have HB : Hid (Below W.heap.size W w1) := hb
  clear hh1 hh2 hWc1 hWc2 hb HW
  go_wp2
  refine bodyPost_ret (v := .agg #[.int .i64 k, .int .i64 n, .string s, .slice a' l' c']) (by simp [results, Try.results78, go_sem, b0, b1, b2, b3]) rfl ⟨a', l', c', fp, rfl, ?_, ?_, ?_⟩
  · refine hown.frame fun g hg => ?_
    have := (hfr.2 g hg).1
    rw [heap_setCell_other _ _ _ _ (by simp; omega), heap_setCell_other _ _ _ _ (by simp; omega), heap_setCell_other _ _ _ _ (by simp; omega), heap_setCell_other _ _ _ _ (by simp; omega), heap_setCell_other _ _ _ _ (by simp; omega)]
  · exact ⟨hfr.1, fun g hg => ⟨by have := (hfr.2 g hg).1; omega, by have := (hfr.2 g hg).2; simpa using this⟩⟩
  · have h1 : Below w.heap.size w w1 := hWb.trans (HB.out.mono (by omega))
    exact ((((h1.setCell (by simp; omega) _).setCell (by simp) _).setCell (by simp) _).setCell (by simp) _).setCell (by simp) _

/-- Four cells of a row written anew. -/
def put4 (cur : Array Value) (o : Nat) (a b c d : Value) : Array Value := (((cur.setIfInBounds o a).setIfInBounds (o + 1) b).setIfInBounds (o + 2) c).setIfInBounds (o + 3) d

theorem put4_size (cur : Array Value) (o : Nat) (a b c d : Value) : (put4 cur o a b c d).size = cur.size := by simp [put4]
theorem put4_other (cur : Array Value) (o : Nat) (a b c d : Value) (j : Nat) (h : j < o ∨ o + 3 < j) : (put4 cur o a b c d)[j]? = cur[j]? := by
  unfold put4
  rw [Array.getElem?_setIfInBounds_ne (by omega), Array.getElem?_setIfInBounds_ne (by omega), Array.getElem?_setIfInBounds_ne (by omega), Array.getElem?_setIfInBounds_ne (by omega)]
theorem put4_at (cur : Array Value) (o : Nat) (a b c d : Value) (h : o + 3 < cur.size) : (put4 cur o a b c d)[o]? = some a ∧ (put4 cur o a b c d)[o + 1]? = some b ∧ (put4 cur o a b c d)[o + 2]? = some c ∧ (put4 cur o a b c d)[o + 3]? = some d := by
  unfold put4
  refine ⟨?_, ?_, ?_, ?_⟩
  · rw [Array.getElem?_setIfInBounds_ne (by omega), Array.getElem?_setIfInBounds_ne (by omega), Array.getElem?_setIfInBounds_ne (by omega), Array.getElem?_setIfInBounds_self]; simp; omega
  · rw [Array.getElem?_setIfInBounds_ne (by omega), Array.getElem?_setIfInBounds_ne (by omega), Array.getElem?_setIfInBounds_self]; simp; omega
  · rw [Array.getElem?_setIfInBounds_ne (by omega), Array.getElem?_setIfInBounds_self]; simp; omega
  · rw [Array.getElem?_setIfInBounds_self]; simp; omega

theorem stores4 (w : World) (g o : Nat) (cur : Array Value) (T : TypeId) (hh : w.heap[g]? = some (.cells cur T (0, 0))) (a b c d : Value) :
    ((((w.setCell ⟨g, o, none⟩ a).setCell ⟨g, o + 1, none⟩ b).setCell ⟨g, o + 2, none⟩ c).setCell ⟨g, o + 3, none⟩ d).heap[g]? = some (.cells (put4 cur o a b c d) T (0, 0)) ∧
    (∀ j, j ≠ g → ((((w.setCell ⟨g, o, none⟩ a).setCell ⟨g, o + 1, none⟩ b).setCell ⟨g, o + 2, none⟩ c).setCell ⟨g, o + 3, none⟩ d).heap[j]? = w.heap[j]?) := by
  constructor
  · exact heap_setCell_same _ g _ _ _ _ (heap_setCell_same _ g _ _ _ _ (heap_setCell_same _ g _ _ _ _ (heap_setCell_same w g _ _ _ _ hh)))
  · intro j hj
    rw [heap_setCell_other _ _ _ _ (by simp; omega), heap_setCell_other _ _ _ _ (by simp; omega), heap_setCell_other _ _ _ _ (by simp; omega), heap_setCell_other _ _ _ _ (by simp; omega)]

theorem stores4_below (w : World) (g o : Nat) (a b c d : Value) : Below g w ((((w.setCell ⟨g, o, none⟩ a).setCell ⟨g, o + 1, none⟩ b).setCell ⟨g, o + 2, none⟩ c).setCell ⟨g, o + 3, none⟩ d) := by
  have h1 := (Below.refl g w).setCell (p := ⟨g, o, none⟩) (Nat.le_refl g) a
  have h2 := h1.setCell (p := ⟨g, o + 1, none⟩) (Nat.le_refl g) b
  have h3 := h2.setCell (p := ⟨g, o + 2, none⟩) (Nat.le_refl g) c
  exact h3.setCell (p := ⟨g, o + 3, none⟩) (Nat.le_refl g) d
theorem stores4_size (w : World) (g o : Nat) (a b c d : Value) : ((((w.setCell ⟨g, o, none⟩ a).setCell ⟨g, o + 1, none⟩ b).setCell ⟨g, o + 2, none⟩ c).setCell ⟨g, o + 3, none⟩ d).heap.size = w.heap.size := by simp

theorem Try.infoTerm : (Try.prog.info? 53).map (fun i => (i.zero, i.size, i.bytes)) = some (some (.agg #[.int .i64 0, .int .i64 0, .string ⟨#[]⟩, .slice none 0 0]), 4, 56) := by kernel_rfl

/-- The first k terms of a list lie copied in the row at B. -/
def Done (d : Nat) (ts : List (Tm (d + 1))) (k : Nat) (w : World) (cur : Array Value) (fps : List (List Nat)) : Prop :=
  ∀ (i : Nat) (t : Tm (d + 1)), i < k → ts[i]? = some t → ∃ lv f, fps[i]? = some f ∧ cur[i * 4]? = some (.int .i64 t.K) ∧ cur[i * 4 + 1]? = some (.int .i64 t.N) ∧ cur[i * 4 + 2]? = some (.string t.S) ∧ cur[i * 4 + 3]? = some lv ∧ OwnL d w lv t.L f

theorem to_step {d : Nat} {ts : List (Tm (d + 1))} {B len k : Nat} {w wr w2 W : World} {cur : Array Value} {fps : List (List Nat)} {t : Tm (d + 1)} {lv : Value} {fp : List Nat}
    (hk : k < len) (hcs : cur.size = len * 4) (hfl : fps.length = k) (hnd : fps.flatten.Nodup) (hfr : ∀ g ∈ fps.flatten, B < g ∧ g < wr.heap.size) (hwz : B < wr.heap.size) (hb : Below B w wr) (hb2 : Below wr.heap.size wr w2)
    (hdone : Done d ts k wr cur fps) (ht : ts[k]? = some t) (hown : OwnL d w2 lv t.L fp) (hfr2 : Fresh wr.heap.size w2 fp)
    (hW1 : W.heap[B]? = some (.cells (put4 cur (k * 4) (.int .i64 t.K) (.int .i64 t.N) (.string t.S) lv) 53 (0, 0))) (hW2 : ∀ j, j ≠ B → W.heap[j]? = w2.heap[j]?) (hWs : W.heap.size = w2.heap.size) (hWb : Below B w2 W) :
    (put4 cur (k * 4) (.int .i64 t.K) (.int .i64 t.N) (.string t.S) lv).size = len * 4 ∧ (fps ++ [fp]).length = k + 1 ∧ (fps ++ [fp]).flatten.Nodup ∧ (∀ g ∈ (fps ++ [fp]).flatten, B < g ∧ g < W.heap.size) ∧ Below B w W ∧
      Done d ts (k + 1) W (put4 cur (k * 4) (.int .i64 t.K) (.int .i64 t.N) (.string t.S) lv) (fps ++ [fp]) := by
  have hmem : ∀ g ∈ fps.flatten, g < wr.heap.size := fun g hg => (hfr g hg).2
  refine ⟨by rw [put4_size, hcs], by simp [hfl], ?_, ?_, (hb.trans (hb2.mono (by omega))).trans hWb, ?_⟩
  · rw [List.flatten_append, List.flatten_singleton, List.nodup_append]
    exact ⟨hnd, hfr2.1, fun a ha b hb e => by have := hmem a ha; have := (hfr2.2 b hb).1; omega⟩
  · intro g hg
    rw [List.flatten_append, List.flatten_singleton, List.mem_append] at hg
    rw [hWs]
    rcases hg with hg | hg
    · have := hfr g hg; have := hb2.size; omega
    · have := hfr2.2 g hg; omega
  · intro i u hi hu
    by_cases hik : i < k
    · obtain ⟨lv', f, e1, e2, e3, e4, e5, e6⟩ := hdone i u hik hu
      refine ⟨lv', f, by rw [List.getElem?_append_left (by omega)]; exact e1, by rw [put4_other _ _ _ _ _ _ _ (by omega)]; exact e2, by rw [put4_other _ _ _ _ _ _ _ (by omega)]; exact e3, by rw [put4_other _ _ _ _ _ _ _ (by omega)]; exact e4, by rw [put4_other _ _ _ _ _ _ _ (by omega)]; exact e5, e6.frame fun g hg => ?_⟩
      have hgf : g ∈ fps.flatten := List.mem_flatten.2 ⟨f, List.mem_of_getElem? e1, hg⟩
      have := hfr g hgf
      rw [hW2 g (by omega), hb2.block g (by omega)]
    · obtain rfl : i = k := by omega
      rw [ht] at hu
      obtain rfl := Option.some.inj hu
      have h4 := put4_at cur (i * 4) (.int .i64 t.K) (.int .i64 t.N) (.string t.S) lv (by omega)
      refine ⟨lv, fp, by rw [List.getElem?_append_right (by omega), hfl]; simp, h4.1, h4.2.1, h4.2.2.1, h4.2.2.2, hown.frame fun g hg => ?_⟩
      have := (hfr2.2 g hg).1
      exact hW2 g (by omega)

set_option maxHeartbeats 2000000 in
theorem toTermS_any : ∀ d, ToS d := by
  intro d
  obtain ⟨i0, hi, hz0, hz1, hz2⟩ := info_parts Try.infoTerm
  induction d with
  | zero =>
    intro v ts w hr hw hz
    obtain ⟨a, c, rfl⟩ := hr
    go_enter Try.func92, Try.ntmps92
    go_wp2_with (at_make; refine wpList_make_full _ rfl _ _ 51 rfl w.heap.size 53 i0 _ 4 Try.underlying51 hi hz0 hz1 _ _ _ _ 0 rfl rfl rfl rfl (by omega) (by unfold maxLen; omega) (Nat.le_refl _) ?_)
    intro w1 hown hgrow
    have hbel : Below w.heap.size w w1 := (Below.refl _ _).grown hgrow (Nat.le_refl _) (fun _ h => by cases h)
    clear hown hgrow
    go_wp2
    refine wp_loop_rounds 1 ?_
    rw [rounds_succ]
    go_wp2
    go_ret
    exact ⟨_, _, _, [], rfl, ⟨⟨_, _, rfl⟩, rfl⟩, ⟨List.nodup_nil, fun g hg => by cases hg⟩, hbel⟩
  | succ d ih =>
    intro v ts w hr hw hz
    have HT := toTerm_of d ih
    obtain ⟨a, c, rfl, hel⟩ := hr
    have HE : Hid (∀ (i : Nat) (t : Tm (d + 1)), ts[i]? = some t → ∃ b o lv, a = some ⟨b, o, none⟩ ∧ Four w b (o + i * 4) t.K t.N t.S lv ∧ RdL d w lv t.L) := hel
    have HW : Hid (WfL (d + 1) ts) := hw
    obtain ⟨len, hlen⟩ : ∃ len, ts.length = len := ⟨_, rfl⟩
    have HLN : Hid (ts.length = len) := hlen
    have hm : len ≤ 1048576 := by have := szP_all d ts; omega
    have HZ : Hid (szL (d + 1) ts ≤ 1048576) := hz
    rw [hlen]
    clear hlen ih hel hw hz
    go_enter Try.func92, Try.ntmps92
    go_wp2_with (at_make; refine wpList_make_full _ rfl _ _ 51 rfl w.heap.size 53 i0 _ 4 Try.underlying51 hi hz0 hz1 _ _ _ _ len rfl rfl rfl rfl (by rw [hz2]; omega) (by unfold maxLen; omega) (Nat.le_refl _) ?_)
    intro w1 hown hgrow
    have hbel : Below w.heap.size w w1 := (Below.refl _ _).grown hgrow (Nat.le_refl _) (fun _ h => by cases h)
    obtain ⟨cur0, hc0, hs0⟩ : ∃ cur, w1.heap[w.heap.size]? = some (.cells cur 53 (0, 0)) ∧ cur.size = len * 4 := by
      rcases hown.2 with ⟨h', _⟩ | ⟨g', cap', cur, h', _, hg, _, _, hs, _⟩
      · simp at h'
      · simp only [Value.slice.injEq, Option.some.injEq, Addr.mk.injEq, and_true, true_and] at h'
        obtain ⟨rfl, rfl⟩ := h'
        exact ⟨cur, hg, hs⟩
    clear hown hgrow
    go_wp2
    go_loopw [4] (fun i wr => ∃ (k : Nat) (cur : Array Value) (fps : List (List Nat)), k ≤ len ∧ i = .int .i64 k ∧ wr.heap[w.heap.size]? = some (.cells cur 53 (0, 0)) ∧ cur.size = len * 4 ∧ fps.length = k ∧ fps.flatten.Nodup ∧ (∀ g ∈ fps.flatten, w.heap.size < g ∧ g < wr.heap.size) ∧ Below w.heap.size w wr ∧ Done d ts k wr cur fps) (fun i _ => len - (intOf i).toNat)
    case atStart => exact ⟨0, cur0, [], Nat.zero_le _, rfl, hc0, hs0, rfl, by simp, by simp, hbel, fun i t hi => by omega⟩
    case round =>
      obtain ⟨k, cur, fps, hk, rfl, hh, hcs, hfl, hnd, hfr, hb, hdone⟩ := hrel
      have HD : Hid (Done d ts k wr cur fps) := hdone
      have HH : Hid (wr.heap[w.heap.size]? = some (.cells cur 53 (0, 0))) := hh
      have HFL : Hid (fps.length = k) := hfl
      have HCS : Hid (cur.size = len * 4) := hcs
      have hwz : w.heap.size < wr.heap.size := Nat.lt_of_not_le fun hn => by simp [Array.getElem?_eq_none hn] at hh
      clear hdone hc0 hs0 hbel hh hfl hcs
      by_cases hkl : k < len
      · obtain ⟨t, ht⟩ : ∃ t, ts[k]? = some t := ⟨_, List.getElem?_eq_getElem (by rw [HLN.out]; exact hkl)⟩
        obtain ⟨b, o, lv, rfl, hF, hL⟩ := HE.out k t ht
        obtain ⟨_, _, hs, hwt⟩ := HW.out.2 t (List.mem_of_getElem? ht)
        obtain ⟨f0, f1, f2, f3⟩ := hF.later hb
        have hzt : szL d t.L ≤ 1048576 := by have h1 := szP_succ d ts k t ht; have h2 := szP_le d ts (k + 1); have h3 := HZ.out; have h4 : szL (d + 1) ts = ts.length + (ts.map fun t => t.S.size + szL d t.L).sum := rfl; omega
        have hC := HT t.K t.N t.S lv t.L wr (hL.later hb) hwt hzt
        clear hF hL hs HT
        go_wp2_with fail
        refine hC.mono ?_
        clear hC
        rintro e w2 ⟨a', l', c', fp, rfl, hown, hfr2, hb2⟩
        have hh2 : w2.heap[w.heap.size]? = some (.cells cur 53 (0, 0)) := (hb2.block _ hwz).trans HH.out
        have hc4 : ∀ j, j < 4 → ∃ v, w2.cell? ⟨w.heap.size, k * 4 + j, none⟩ = some v := fun j hj => by
          rw [cell_of_row w2 _ _ _ _ _ hh2]
          exact ⟨_, Array.getElem?_eq_getElem (by have := HCS.out; omega)⟩
        obtain ⟨v0, c0⟩ := hc4 0 (by omega)
        obtain ⟨v1, c1⟩ := hc4 1 (by omega)
        obtain ⟨v2, c2⟩ := hc4 2 (by omega)
        obtain ⟨v3, c3⟩ := hc4 3 (by omega)
        rw [Nat.add_zero] at c0
        have z0 : w2.frozen? ⟨w.heap.size, k * 4, none⟩ = false := frozen_of_row w2 _ _ _ _ hh2
        have z1 : w2.frozen? ⟨w.heap.size, k * 4 + 1, none⟩ = false := frozen_of_row w2 _ _ _ _ hh2
        have z2 : w2.frozen? ⟨w.heap.size, k * 4 + 2, none⟩ = false := frozen_of_row w2 _ _ _ _ hh2
        have z3 : w2.frozen? ⟨w.heap.size, k * 4 + 3, none⟩ = false := frozen_of_row w2 _ _ _ _ hh2
        have HH2 : Hid (w2.heap[w.heap.size]? = some (.cells cur 53 (0, 0))) := hh2
        clear hc4 hh2 f0 f1 f2 f3
        have hS := stores4 w2 w.heap.size (k * 4) cur 53 HH2.out (.int .i64 t.K) (.int .i64 t.N) (.string t.S) (.slice a' l' c')
        have hWb := stores4_below w2 w.heap.size (k * 4) (.int .i64 t.K) (.int .i64 t.N) (.string t.S) (.slice a' l' c')
        have R := to_step hkl HCS.out HFL.out hnd hfr hwz hb hb2 HD.out ht hown hfr2 hS.1 hS.2 (stores4_size w2 w.heap.size (k * 4) _ _ _ _) hWb
        have HS1 : Hid _ := hS.1
        have HRR : Hid _ := R
        clear hS hWb R hown hfr2 hb2 hnd hfr hb
        go_wp2
        go_roundw
        case rel => exact ⟨k + 1, _, _, by omega, by go_num, HS1.out, HRR.out.1, HRR.out.2.1, HRR.out.2.2.1, HRR.out.2.2.2.1, HRR.out.2.2.2.2.1, HRR.out.2.2.2.2.2⟩
        case measure => simp [intOf]; omega
      · have HO : Hid (OwnL (d + 1) wr (.slice (some ⟨w.heap.size, 0, none⟩) len len) ts (w.heap.size :: fps.flatten)) :=
          .inr ⟨w.heap.size, len, cur, fps, by rw [HLN.out], HH.out, by rw [HFL.out, HLN.out]; omega, rfl, fun i t ht => HD.out i t (by have := (List.getElem?_eq_some_iff.1 ht).1; have := HLN.out; omega) ht⟩
        have HFR : Hid (Fresh w.heap.size wr (w.heap.size :: fps.flatten)) := ⟨List.nodup_cons.2 ⟨fun hg => by have := (hfr _ hg).1; omega, hnd⟩, fun g hg => by
          rcases List.mem_cons.1 hg with rfl | hg
          · omega
          · have := hfr g hg; omega⟩
        clear hnd hfr HT
        go_wp2
        go_ret
        exact ⟨_, _, _, _, rfl, HO.out, HFR.out, hb⟩

end Go.Proofs.Ytgmddookohkhlaa
