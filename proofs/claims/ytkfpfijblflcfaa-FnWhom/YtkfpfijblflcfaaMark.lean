/- The law's own helpers that mark a row of bytes and ask whether the marks are held. -/
import Derived.Test.YtkfpfijblflcfaaApp
namespace Go.Proofs.Ytkfpfijblflcfaa
open Go.RowKit

/-- The marks from 1 on of the first k bytes, behind them what was there. -/
def marked (xs : List Value) (k : Nat) : List Value := (List.range k).map (fun i : Nat => Value.int .u8 (((i : Int) + 1) % 256)) ++ xs.drop k

theorem marked_len (xs : List Value) (k : Nat) (h : k ≤ xs.length) : (marked xs k).length = xs.length := by simp [marked]; omega
theorem marked_step (xs : List Value) (k : Nat) (h : k < xs.length) : (marked xs k).set k (.int .u8 (((k : Int) + 1) % 256)) = marked xs (k + 1) := by
  unfold marked
  rw [List.set_append_right _ _ (by simp), List.length_map, List.length_range, Nat.sub_self, List.drop_eq_getElem_cons h, List.set_cons_zero, List.range_succ]
  simp

theorem marked_at (xs : List Value) (n j : Nat) (h : j < n) : (marked xs n)[j]? = some (.int .u8 (((j : Int) + 1) % 256)) := by
  unfold marked
  rw [List.getElem?_append_left (by simpa using h)]
  simp [h]

/-- What is owned stays owned where the block is as it was. -/
theorem own_same {w w' : World} {B g n c : Nat} {xs : List Value} (h : w.ownsRow B 5 1 (.slice (some ⟨g, 0, none⟩) n c) n xs) (hh : w'.heap[g]? = w.heap[g]?) : w'.ownsRow B 5 1 (.slice (some ⟨g, 0, none⟩) n c) n xs := by
  refine ⟨h.1, ?_⟩
  rcases h.2 with ⟨h', _⟩ | ⟨g', cap', cur, h', hb, hg, r⟩
  · simp at h'
  · simp only [Value.slice.injEq, Option.some.injEq, Addr.mk.injEq, and_true, true_and] at h'
    obtain ⟨rfl, rfl⟩ := h'
    exact .inr ⟨g, c, cur, rfl, hb, by rw [hh]; exact hg, r⟩

theorem own_below {w w' : World} {B g n c : Nat} {xs : List Value} (h : w.ownsRow B 5 1 (.slice (some ⟨g, 0, none⟩) n c) n xs) (hb : Below w.heap.size w w') : w'.ownsRow B 5 1 (.slice (some ⟨g, 0, none⟩) n c) n xs :=
  own_same h (hb.block g (own_lt h))

theorem own_grown {w w' : World} {B g k n c : Nat} {xs : List Value} (h : w.ownsRow B 5 1 (.slice (some ⟨g, 0, none⟩) n c) n xs) (hb : w.grownBy w' (some k)) (hne : g ≠ k) : w'.ownsRow B 5 1 (.slice (some ⟨g, 0, none⟩) n c) n xs :=
  own_same h (hb.block g (own_lt h) (by simpa using hne))

theorem own_drewN {w : World} {B n : Nat} {v : Value} {xs : List Value} (h : w.ownsRow B 5 1 v n xs) (q : Nat) : (w.drewN q).ownsRow B 5 1 v n xs := by
  induction q with
  | zero => exact h
  | succ q ih => exact ih.drew

/-- What is owned and is not empty lies at the head of a row. -/
theorem own_shape {w : World} {B n : Nat} {v : Value} {xs : List Value} (h : w.ownsRow B 5 1 v n xs) (hn : 0 < n) : ∃ g c, v = .slice (some ⟨g, 0, none⟩) n c ∧ B ≤ g := by
  rcases h.2 with ⟨_, h0⟩ | ⟨g, c, cur, h1, h2, _⟩
  · omega
  · exact ⟨g, c, h1, h2⟩

/-- A row of the call's own, as a slice that comes in. -/
theorem own_isRow {w : World} {B g n c : Nat} {xs : List Int} (h : w.ownsRow B 5 1 (.slice (some ⟨g, 0, none⟩) n n) n (xs.map (Value.int .u8))) (hr : ∀ x ∈ xs, 0 ≤ x ∧ x ≤ 255) (hc : c = n) (hm : n ≤ maxLen) : IsRow .u8 w (some ⟨g, 0, none⟩) n c xs := by
  subst hc
  have hl : xs.length = c := by have := h.1; simpa using this
  exact .inr ⟨_, rfl, Nat.le_refl _, hm, hl, fun i hi => by have := own_cells h i (by omega); rw [Addr.add_lit]; exact this, fun x hx => by have := hr x hx; exact WalkArith.wf_u8 (by omega)⟩

end Go.Proofs.Ytkfpfijblflcfaa
