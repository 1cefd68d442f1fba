/- A pattern that is gone through: what is kept of it, and a slot that is taken. -/
import Derived.Test.YtfcdmmmihiojoaaPf1
import Derived.Test.YtfcdmmmihiojoaaIFit
import Derived.Laws.Tables
namespace Go.Proofs.Ytfcdmmmihiojoaa
open Go.RowKit
set_option linter.unusedVariables false

/-- What lies in the block: how many slots there are, how many may be left, which slots are taken. -/
def FgA (w : World) (p : Nat) (sl L : Int) (tk : List Int) : Prop :=
  ∃ c : Array Value, w.heap[p]? = some (.cells c 42 (0, 0)) ∧ c.size = 402 ∧ c[0]? = some (.int .i64 sl) ∧ c[1]? = some (.int .i64 L) ∧ ∀ i : Nat, i < 400 → c[2 + i]? = some (.bool (decide ((i : Int) ∈ tk)))

theorem FgA.lt {w : World} {p : Nat} {sl L : Int} {tk : List Int} (h : FgA w p sl L tk) : p < w.heap.size := by
  obtain ⟨c, h1, _⟩ := h
  exact lt_row h1
theorem FgA.slots {w : World} {p : Nat} {sl L : Int} {tk : List Int} (h : FgA w p sl L tk) : w.cell? ⟨p, 0, none⟩ = some (.int .i64 sl) := by
  obtain ⟨c, h1, _, h2, _⟩ := h
  rw [cell_of_row w _ 0 _ _ _ h1]; exact h2
theorem FgA.left {w : World} {p : Nat} {sl L : Int} {tk : List Int} (h : FgA w p sl L tk) : w.cell? ⟨p, 1, none⟩ = some (.int .i64 L) := by
  obtain ⟨c, h1, _, _, h2, _⟩ := h
  rw [cell_of_row w _ 1 _ _ _ h1]; exact h2
theorem FgA.slot {w : World} {p : Nat} {sl L : Int} {tk : List Int} (h : FgA w p sl L tk) (i : Nat) (hi : i < 400) : w.cell? ⟨p, 2 + i, none⟩ = some (.bool (decide ((i : Int) ∈ tk))) := by
  obtain ⟨c, h1, _, _, _, h2⟩ := h
  rw [cell_of_row w _ _ _ _ _ h1]; exact h2 i hi
theorem FgA.thaw {w : World} {p : Nat} {sl L : Int} {tk : List Int} (h : FgA w p sl L tk) (i : Nat) : w.frozen? ⟨p, i, none⟩ = false := by
  obtain ⟨c, h1, _⟩ := h
  exact frozen_of_row w _ _ _ _ h1
theorem FgA.kept {w w' : World} {p : Nat} {sl L : Int} {tk : List Int} (h : FgA w p sl L tk) (hb : w'.heap[p]? = w.heap[p]?) : FgA w' p sl L tk := by
  obtain ⟨c, h1, h2⟩ := h
  exact ⟨c, hb.trans h1, h2⟩
theorem FgA.less {w : World} {p : Nat} {sl L : Int} {tk : List Int} (h : FgA w p sl L tk) (L' : Int) : FgA (w.setCell ⟨p, 1, none⟩ (.int .i64 L')) p sl L' tk := by
  obtain ⟨c, h1, h2, h3, h4, h5⟩ := h
  refine ⟨_, heap_setCell_same w p 1 _ _ _ h1, by simpa using h2, ?_, ?_, fun i hi => ?_⟩
  · rw [Array.getElem?_setIfInBounds_ne (by omega)]; exact h3
  · rw [Array.getElem?_setIfInBounds_self_of_lt (by omega)]
  · rw [Array.getElem?_setIfInBounds_ne (by omega)]; exact h5 i hi
theorem FgA.take {w : World} {p : Nat} {sl L : Int} {tk : List Int} (h : FgA w p sl L tk) (k : Nat) (hk : k < 400) : FgA (w.setCell ⟨p, 2 + k, none⟩ (.bool true)) p sl L (tk ++ [(k : Int)]) := by
  obtain ⟨c, h1, h2, h3, h4, h5⟩ := h
  refine ⟨_, heap_setCell_same w p (2 + k) _ _ _ h1, by simpa using h2, ?_, ?_, fun i hi => ?_⟩
  · rw [Array.getElem?_setIfInBounds_ne (by omega)]; exact h3
  · rw [Array.getElem?_setIfInBounds_ne (by omega)]; exact h4
  · by_cases e : i = k
    · subst e
      rw [Array.getElem?_setIfInBounds_self_of_lt (by omega)]
      simp
    · rw [Array.getElem?_setIfInBounds_ne (by omega), h5 i hi]
      have : ((i : Int) ∈ tk ++ [(k : Int)]) ↔ (i : Int) ∈ tk := by simp; omega
      simp [this]

/-- A slot that may be taken. -/
def TakesP (sl : Int) (tk : List Int) (n : Int) : Prop := n = -1 ∨ (0 ≤ n ∧ n < sl ∧ n ∉ tk)
def TkRes (P : Prop) (p : Nat) (sl L : Int) (tk : List Int) (w : World) (r : Ending) (w' : World) : Prop := ∃ b : Bool, r = .returned (.bool b) ∧ (b = true ↔ P) ∧ (b = true → FgA w' p sl L tk) ∧ Turned p w w'
theorem tk_yes {P : Prop} {p : Nat} {sl L : Int} {tk : List Int} {w w' : World} (h : P) (h1 : FgA w' p sl L tk) (h2 : Turned p w w') : TkRes P p sl L tk w (.returned (.bool true)) w' := ⟨true, rfl, iff_yes h, fun _ => h1, h2⟩
theorem tk_no {P : Prop} {p : Nat} {sl L : Int} {tk : List Int} {w w' : World} (h : ¬ P) (h2 : Turned p w w') : TkRes P p sl L tk w (.returned (.bool false)) w' := ⟨false, rfl, iff_no h, (fun e => Bool.noConfusion e), h2⟩

set_option maxRecDepth 100000 in
set_option maxHeartbeats 4000000 in
theorem takes_any (p : Nat) (sl L n : Int) (tk : List Int) (w : World) (h : FgA w p sl L tk) (hs0 : 0 ≤ sl) (hs1 : sl ≤ 400) (hn : I64 n) :
    Calls Try.prog 18 #[.pointer (some ⟨p, 0, none⟩), .int .i64 n] w fun r w' => TkRes (TakesP sl tk n) p sl L (tk ++ ownSlot 3 n) w r w' := by
  have HG : Hid (FgA w p sl L tk) := h
  have c0 := h.slots
  have hpz := h.lt
  by_cases h1 : n = -1
  · have HY : Hid (TakesP sl tk n) := .inl h1
    have HF : Hid (FgA w p sl L (tk ++ ownSlot 3 n)) := by rw [h1, show ownSlot 3 (-1) = [] from by simp [ownSlot], List.append_nil]; exact h
    have q1 : (n == -1) = true := by simp [h1]
    clear h h1
    go_enter Try.func18, Try.ntmps18
    go_wp2_with fail
    go_ret
    exact tk_yes HY.out HF.out (Turned.refl _ _)
  have q1 : (n == -1) = false := by simp [h1]
  by_cases h2 : n < 0
  · have HN : Hid (¬ TakesP sl tk n) := fun h => by rcases h with h | h; exact h1 h; omega
    clear h h1
    go_enter Try.func18, Try.ntmps18
    go_wp2_with fail
    go_ret
    exact tk_no HN.out (Turned.refl _ _)
  by_cases h3 : sl ≤ n
  · have HN : Hid (¬ TakesP sl tk n) := fun h => by rcases h with h | h; exact h1 h; omega
    clear h h1
    go_enter Try.func18, Try.ntmps18
    go_wp2_with fail
    go_ret
    exact tk_no HN.out (Turned.refl _ _)
  obtain ⟨k, rfl⟩ : ∃ k : Nat, n = k := ⟨n.toNat, by omega⟩
  have hk : k < 400 := by omega
  have ck := h.slot k hk
  by_cases h4 : (k : Int) ∈ tk
  · have HN : Hid (¬ TakesP sl tk k) := fun h => by rcases h with h | h; exact h1 h; exact h.2.2 h4
    rw [show decide ((k : Int) ∈ tk) = true from by simp [h4]] at ck
    clear h h1 h4
    go_enter Try.func18, Try.ntmps18
    go_wp2_with fail
    go_ret
    exact tk_no HN.out (Turned.refl _ _)
  · have HY : Hid (TakesP sl tk k) := .inr ⟨by omega, by omega, h4⟩
    have HF : Hid (FgA (w.setCell ⟨p, 2 + k, none⟩ (.bool true)) p sl L (tk ++ ownSlot 3 k)) := by
      have := h.take k hk
      rw [show ownSlot 3 (k : Int) = [(k : Int)] from by unfold ownSlot; rw [if_pos ⟨rfl, h1⟩]]
      exact this
    have zk := h.thaw (2 + k)
    rw [show decide ((k : Int) ∈ tk) = false from by simp [h4]] at ck
    clear h h1 h4
    go_enter Try.func18, Try.ntmps18
    go_wp2_with fail
    go_ret
    exact tk_yes HY.out HF.out (Turned.of_set _ _ _ _)

end Go.Proofs.Ytfcdmmmihiojoaa
