/- The law's own marks on an expression; its comparison and marks of lists of texts. -/
import Derived.Test.YtgmddookohkhlaaXk0M
import Derived.Test.YtgmddookohkhlaaGetTM
import Derived.Test.YtgmddookohkhlaaOkM
import Derived.BigQuiet
namespace Go.Proofs.Ytgmddookohkhlaa
open Go.RowKit
set_option linter.unusedVariables false

theorem OwnRow.none {α : Type} {k : Nat} {T : TypeId} {O : World → List Value → α → List Nat → Prop} {w : World} {v : Value} {xs : List α} {fp : List Nat} (h : OwnRow k T O w v xs fp) (hO : ∀ w vs x f, ¬ O w vs x f) : ∃ a c, v = .slice a 0 c := by
  rcases h with ⟨_, _, e⟩ | ⟨g, c, cur, fps, e, _, _, _, h4⟩
  · exact e
  · cases xs with
    | nil => exact ⟨_, c, e⟩
    | cons x r =>
      obtain ⟨vs, f, _, _, _, ho⟩ := h4 0 x rfl
      exact absurd ho (hO _ _ _ _)

/-- A slice of texts. -/
def TellS (w : World) (v : Value) (l : List ByteArray) : Prop := ∃ a c, v = .slice a l.length c ∧ ∀ (i : Nat) (s : ByteArray), l[i]? = some s → ∃ b o, a = some ⟨b, o, none⟩ ∧ w.cell? ⟨b, o + i, none⟩ = some (.string s)

theorem StrRow.tellS {w : World} {B : Nat} {v : Value} {l : List ByteArray} (h : StrRow w B v l) : TellS w v l := by
  rcases h.2 with ⟨e, h0⟩ | ⟨g, cap, cur, e, _, hg, _, _, _, ht⟩
  · have : l = [] := List.length_eq_zero_iff.1 h0
    subst this
    exact ⟨_, _, e, fun i s hs => by simp at hs⟩
  · refine ⟨_, cap, e, fun i s hs => ⟨g, 0, rfl, ?_⟩⟩
    have hi := (List.getElem?_eq_some_iff.1 hs).1
    rw [Nat.zero_add, cell_of_row w _ _ _ _ _ hg]
    have h1 : (l.map Value.string)[i]? = some (.string s) := by rw [List.getElem?_map, hs]; rfl
    rw [← ht, Nat.mul_one, List.getElem?_take, if_pos hi] at h1
    simpa using h1
theorem TellS.later {w w' : World} {v : Value} {l : List ByteArray} (h : TellS w v l) (hb : Below w.heap.size w w') : TellS w' v l := by
  obtain ⟨a, c, e, h1⟩ := h
  refine ⟨a, c, e, fun i s hs => ?_⟩
  obtain ⟨b, o, h2, h3⟩ := h1 i s hs
  exact ⟨b, o, h2, cell_later hb h3⟩

/-- The marks on n texts from k on. -/
def mks (k : Int) (n : Nat) : List ByteArray := (List.range n).map fun i => mt (k + (i : Nat))

theorem mks_len (k : Int) (n : Nat) : (mks k n).length = n := by simp [mks]
theorem mks_at (k : Int) (n i : Nat) (h : i < n) : (mks k n)[i]? = some (mt (k + (i : Nat))) := by simp [mks, h]

end Go.Proofs.Ytgmddookohkhlaa
