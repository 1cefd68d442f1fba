/- What a draw of bytes for a term comes to: at most 19201 bytes, in new memory. -/
import Derived.Test.YtbllnmafilabpaaDrTm2M
import Derived.Test.YtbllnmafilabpaaCanonM
import Derived.Test.YtbllnmafilabpaaPutM
import Derived.Test.YtbllnmafilabpaaIGet2M
import Derived.Deep.RegionWith
namespace Go.Proofs.Ytbllnmafilabpaa
open Go.RowKit
set_option linter.unusedVariables false

theorem sm_ok : ∀ (d : Nat) (ts : List (Tm d)), (∀ u ∈ ts, SmT d u) → OkL d ts := by
  intro d
  induction d with
  | zero => intro ts h; trivial
  | succ d ih =>
    intro ts h t ht
    obtain ⟨h1, h2, h3, h4⟩ := h t ht
    exact ⟨h1, ih t.L h4⟩

theorem dep_le : ∀ (d : Nat) (ts : List (Tm d)), depL d ts ≤ d := by
  intro d
  induction d with
  | zero => intro ts; exact Nat.le_refl _
  | succ d ih =>
    intro ts
    refine foldl_max_le _ 0 _ (Nat.zero_le _) fun x hx => ?_
    obtain ⟨t, ht, rfl⟩ := List.mem_map.1 hx
    have := ih t.L
    omega

theorem sm_cnt : ∀ (d : Nat) (ts : List (Tm d)), (∀ u ∈ ts, SmT d u) → ts.length ≤ 3 → cntL d ts + 1 ≤ 4 ^ d := by
  intro d
  induction d with
  | zero => intro ts h _; exact Nat.le_refl _
  | succ d ih =>
    intro ts h hl
    have hb : ∀ (l : List (Tm (d + 1))), (∀ u ∈ l, SmT (d + 1) u) → cntL (d + 1) l ≤ l.length * 4 ^ d := by
      intro l hh
      induction l with
      | nil => exact Nat.zero_le _
      | cons t r ih2 =>
        obtain ⟨h1, h2, h3, h4⟩ := hh t (List.mem_cons_self ..)
        have g1 := ih t.L h4 h3
        have g2 := ih2 fun u hu => hh u (List.mem_cons_of_mem _ hu)
        show (1 + cntL d t.L) + cntL (d + 1) r ≤ (r.length + 1) * 4 ^ d
        rw [Nat.add_mul]
        omega
    have h1 := hb ts h
    have h2 : ts.length * 4 ^ d ≤ 3 * 4 ^ d := Nat.mul_le_mul_right _ hl
    have h3 : 1 ≤ 4 ^ d := Nat.pow_pos (by decide)
    rw [Nat.pow_succ]
    omega

theorem sm_right {t : Tm 4} (h : SmT 4 t) : Right 3 t.K t.N t.S t.L 8 300 := by
  obtain ⟨h1, h2, h3, h4⟩ := h
  have c := sm_cnt 3 t.L h4 h3
  have e := dep_le 3 t.L
  have p : (4 : Nat) ^ 3 = 64 := by decide
  exact ⟨h1, sm_ok 3 t.L h4, by omega, by omega⟩

theorem encL_byte : ∀ (d : Nat) (ts : List (Tm d)), ∀ x ∈ encL d ts, 0 ≤ x ∧ x ≤ 255 := by
  intro d
  induction d with
  | zero => intro ts x hx; cases hx
  | succ d ih =>
    intro ts x hx
    obtain ⟨t, _, ht⟩ := List.mem_flatMap.1 hx
    refine mem_app (enc_byte _ (code_bd _).1) ?_ x ht
    unfold bodyE
    split
    · exact enc_byte _ (code_bd _).1
    · split
      · exact mem_app (enc_byte _ (code_bd _).1) (nums_byte _)
      · exact mem_app (enc_byte _ (code_bd _).1) (ih _)

theorem encT_byte (d : Nat) (k n : Int) (s : ByteArray) (ts : List (Tm d)) : ∀ x ∈ encT d k n s ts, 0 ≤ x ∧ x ≤ 255 := by
  refine mem_app (enc_byte _ (code_bd _).1) ?_
  unfold bodyE
  split
  · exact enc_byte _ (code_bd _).1
  · split
    · exact mem_app (enc_byte _ (code_bd _).1) (nums_byte _)
    · exact mem_app (enc_byte _ (code_bd _).1) (encL_byte d ts)

theorem encT_pos (d : Nat) (k n : Int) (s : ByteArray) (ts : List (Tm d)) : 0 < (encT d k n s ts).length := by
  unfold encT
  rw [List.length_append]
  have := enc_len_pos (code k)
  omega

/-- What a draw of bytes hands on. -/
def GDraw (w w' : World) (g n c : Nat) (ys : List Int) : Prop := Bts n c ys ∧ g < w'.heap.size ∧ (∀ i, i < n → w'.cell? ⟨g, 0 + i, none⟩ = some (.int .u8 (ys.getD i 0))) ∧ Below w.heap.size w w'

theorem row_at {w : World} {B g n c : Nat} {ys : List Int} (h : w.ownsRow B 5 1 (.slice (some ⟨g, 0, none⟩) n c) n (ys.map (Value.int .u8))) (i : Nat) (hi : i < n) : w.cell? ⟨g, i, none⟩ = some (.int .u8 (ys.getD i 0)) ∧ w.frozen? ⟨g, i, none⟩ = false := by
  have hl := h.1
  rw [List.length_map] at hl
  rcases h.2 with ⟨e, _⟩ | ⟨g', c', cur, e1, e2, e3, e4, e5, e6, e7⟩
  · simp at e
  · simp only [Value.slice.injEq, Option.some.injEq, Addr.mk.injEq, and_true, true_and] at e1
    obtain ⟨rfl, rfl⟩ := e1
    refine ⟨?_, frozen_of_row w _ _ _ _ e3⟩
    rw [cell_of_row w _ _ _ _ _ e3]
    have h1 : (cur.toList.take (n * 1))[i]? = some (.int .u8 (ys.getD i 0)) := by
      rw [e7, List.getElem?_map, List.getD_eq_getElem?_getD, List.getElem?_eq_getElem (by omega)]
      rfl
    rw [List.getElem?_take_of_lt (by omega)] at h1
    simpa using h1

theorem gd_of_row {w w' : World} {B g n c : Nat} {ys : List Int} (h : w'.ownsRow B 5 1 (.slice (some ⟨g, 0, none⟩) n c) n (ys.map (Value.int .u8))) (hy : ∀ x ∈ ys, 0 ≤ x ∧ x ≤ 255) (hn : n ≤ 1048576) (hb : Below w.heap.size w w') : GDraw w w' g n c ys := by
  have hl := h.1
  rw [List.length_map] at hl
  refine ⟨⟨by omega, hn, ?_, ?_, range_of_mem hy⟩, ?_, fun i hi => by rw [Nat.zero_add]; exact (row_at h i hi).1, hb⟩
  all_goals
    rcases h.2 with ⟨e, _⟩ | ⟨g', c', cur, e1, e2, e3, e4, e5, e6, e7⟩
    · simp at e
    · simp only [Value.slice.injEq, Option.some.injEq, Addr.mk.injEq, and_true, true_and] at e1
      obtain ⟨rfl, rfl⟩ := e1
      first | exact e4 | (unfold maxLen at e5; omega) | exact lt_of_row' e3

/-- A byte of a row is turned. -/
theorem gd_set {w w' : World} {B g n c j : Nat} {ys : List Int} {x : Int} (h : w'.ownsRow B 5 1 (.slice (some ⟨g, 0, none⟩) n c) n (ys.map (Value.int .u8))) (hy : ∀ x ∈ ys, 0 ≤ x ∧ x ≤ 255) (hx : 0 ≤ x ∧ x ≤ 255) (hn : n ≤ 1048576) (hb : Below w.heap.size w w') (hg : w.heap.size ≤ g) : GDraw w (w'.setCell ⟨g, j, none⟩ (.int .u8 x)) g n c (ys.set j x) := by
  obtain ⟨h1, h2, h3, h4⟩ := gd_of_row h hy hn hb
  have hs : ∀ u ∈ ys.set j x, 0 ≤ u ∧ u ≤ 255 := fun u hu => by
    rcases List.mem_or_eq_of_mem_set hu with hu | rfl
    · exact hy u hu
    · exact hx
  refine ⟨⟨by rw [List.length_set]; exact h1.len, h1.le, h1.cap1, h1.cap2, range_of_mem hs⟩, by simp; exact h2, fun i hi => ?_, h4.trans ((Turned.of_set w' g j _).below hg h4.size)⟩
  rcases h.2 with ⟨e, _⟩ | ⟨g', c', cur, e1, e2, e3, e4, e5, e6, e7⟩
  · simp at e
  · simp only [Value.slice.injEq, Option.some.injEq, Addr.mk.injEq, and_true, true_and] at e1
    obtain ⟨rfl, rfl⟩ := e1
    rw [cell_of_row _ _ _ _ _ _ (heap_setCell_same w' g j _ _ (.int .u8 x) e3), Nat.zero_add]
    have hi2 := (row_at h i hi).1
    rw [cell_of_row w' _ _ _ _ _ e3] at hi2
    have hl := h1.len
    by_cases he : j = i
    · subst he
      rw [Array.getElem?_setIfInBounds_self_of_lt (by omega), List.getD_eq_getElem?_getD, List.getElem?_set_self (by omega)]
      rfl
    · rw [Array.getElem?_setIfInBounds_ne he, hi2, List.getD_eq_getElem?_getD, List.getD_eq_getElem?_getD, List.getElem?_set_ne he]

end Go.Proofs.Ytbllnmafilabpaa

/- What the law on terms that are read holds in hand: two rows of the same bytes, and the zero term. -/
namespace Go.Proofs.Ytbllnmafilabpaa
open Go.RowKit
set_option linter.unusedVariables false

end Go.Proofs.Ytbllnmafilabpaa
