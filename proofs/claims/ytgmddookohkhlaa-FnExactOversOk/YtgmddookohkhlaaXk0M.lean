/- The law's own marks on lists of structs: what is left of a list. -/
import Derived.Test.YtgmddookohkhlaaOkM
import Derived.Test.YtgmddookohkhlaaMarkTM
namespace Go.Proofs.Ytgmddookohkhlaa
open Go.RowKit
set_option linter.unusedVariables false

/-- The contract of marks on a list: how far the marks go, and that nothing else is written. -/
def MkL {α : Type} (F k : Nat) (T : TypeId) (O : World → List Value → α → List Nat → Prop) (c : α → Nat) : Prop := ∀ (v : Value) (xs : List α) (fp : List Nat) (q : Int) (w : World), OwnRow k T O w v xs fp → fp.Nodup → 0 ≤ q → q + ((xs.map c).sum : Nat) ≤ 1099511627776 → xs.length ≤ 1099511627776 →
  Calls Try.prog F #[v, .int .i64 q] w fun e w' => ∃ q' : Int, e = .returned (.int .i64 q') ∧ 0 ≤ q' ∧ q' ≤ q + ((xs.map c).sum : Nat) ∧ Wrote fp w w'

/-- From the jth on a list lies as it lay. -/
def RestRow {α : Type} (k : Nat) (O : World → List Value → α → List Nat → Prop) (xs : List α) (j : Nat) (w : World) (cur : Array Value) (fps : List (List Nat)) : Prop :=
  ∀ (i : Nat) (x : α), j ≤ i → xs[i]? = some x → ∃ vs f, fps[i]? = some f ∧ vs.length = k ∧ (∀ (m : Nat) (u : Value), vs[m]? = some u → cur[i * k + m]? = some u) ∧ O w vs x f

/-- All blocks are there. -/
def InHeap {α : Type} (O : World → List Value → α → List Nat → Prop) : Prop := ∀ w vs x f, O w vs x f → ∀ g ∈ f, g < w.heap.size

theorem OwnRow.lt {α : Type} {k : Nat} {T : TypeId} {O : World → List Value → α → List Nat → Prop} (hI : InHeap O) {w : World} {v : Value} {xs : List α} {fp : List Nat} (h : OwnRow k T O w v xs fp) : ∀ g ∈ fp, g < w.heap.size := by
  intro g hg
  rcases h with ⟨_, rfl, _⟩ | ⟨g0, c, cur, fps, _, h2, h3, rfl, h4⟩
  · cases hg
  · rcases List.mem_cons.1 hg with rfl | hg
    · exact lt_row h2
    · obtain ⟨f, hf, hgf⟩ := List.mem_flatten.1 hg
      obtain ⟨i, hi, e⟩ := List.getElem_of_mem hf
      obtain ⟨t, ht⟩ : ∃ t, xs[i]? = some t := ⟨_, List.getElem?_eq_getElem (by omega)⟩
      obtain ⟨vs, f', e1, _, _, e6⟩ := h4 i t ht
      rw [List.getElem?_eq_getElem hi, e] at e1
      cases e1
      exact hI _ _ _ _ e6 g hgf

theorem ClO.lt {α : Type} {O : World → List Value → α → List Nat → Prop} (h : InHeap O) : InHeap (ClO O) := by
  rintro w vs c fp ⟨p, x, f, g, rfl, rfl, h1, h2⟩ y hy
  rcases List.mem_append.1 hy with hy | hy
  · exact h _ _ _ _ h1 y hy
  · exact h _ _ _ _ h2 y hy
/-- One is marked. -/
theorem rest_step {α : Type} {k : Nat} {O : World → List Value → α → List Nat → Prop} (hO : LastsO O) (hI : InHeap O) {xs : List α} {j g : Nat} {wr V2 : World} {cur cur3 : Array Value} {fps : List (List Nat)} {f : List Nat} (hH : RestRow k O xs j wr cur fps) (hf : fps[j]? = some f) (hnd : (g :: fps.flatten).Nodup)
    (hW : Wrote (g :: f) wr V2) (hc : ∀ m, (j + 1) * k ≤ m → cur3[m]? = cur[m]?) : RestRow k O xs (j + 1) V2 cur3 fps := by
  intro i x hi hx
  obtain ⟨vs, f', e1, e2, e3, e4⟩ := hH i x (by omega) hx
  refine ⟨vs, f', e1, e2, fun m u hu => ?_, hO _ _ _ _ _ e4 fun y hy => ?_⟩
  · have h1 : (j + 1) * k ≤ i * k := Nat.mul_le_mul_right k hi
    rw [hc _ (by omega)]
    exact e3 m u hu
  · refine hW.block y (hI _ _ _ _ e4 y hy) fun hm => ?_
    rcases List.mem_cons.1 hm with rfl | hm
    · exact (List.nodup_cons.1 hnd).1 (List.mem_flatten.2 ⟨f', List.mem_of_getElem? e1, hy⟩)
    · exact (nodup_fl fps (List.nodup_cons.1 hnd).2).2 j i f f' (by omega) hf e1 y hm hy

/-- How many marks an expression takes beside its own. -/
def ckX : (d : Nat) → Ex d → Nat
  | 0, _ => 0
  | d + 1, e => (e.E.map fun x => 3 + ckX d x).sum + (e.C.map fun c => 6 + ckX d c.1 + ckX d c.2).sum

theorem ckX_le : ∀ (d : Nat) (e : Ex d), ckX d e ≤ 6 * szX d e := by
  intro d
  induction d with
  | zero => intro e; exact Nat.zero_le _
  | succ d ih =>
    intro e
    have h1 : (e.E.map fun x => 3 + ckX d x).sum ≤ 6 * szRow (szX d) e.E := by
      unfold szRow
      generalize e.E = l
      induction l with
      | nil => exact Nat.zero_le _
      | cons x l ihl => simp only [List.map_cons, List.sum_cons, List.length_cons]; have := ih x; omega
    have h2 : (e.C.map fun c => 6 + ckX d c.1 + ckX d c.2).sum ≤ 6 * szRow (ClF (szX d)) e.C := by
      unfold szRow
      generalize e.C = l
      induction l with
      | nil => exact Nat.zero_le _
      | cons x l ihl => simp only [List.map_cons, List.sum_cons, List.length_cons]; have := ih x.1; have := ih x.2; show _ ≤ 6 * (_ + ((szX d x.1 + szX d x.2) + _)); omega
    show (e.E.map fun x => 3 + ckX d x).sum + (e.C.map fun c => 6 + ckX d c.1 + ckX d c.2).sum ≤ 6 * (e.S.size + szRow (szX d) e.E + szRow (ClF (szX d)) e.C)
    omega

end Go.Proofs.Ytgmddookohkhlaa

/- The law's own marks on lists of expressions: the walk. -/
namespace Go.Proofs.Ytgmddookohkhlaa
open Go.RowKit
set_option linter.unusedVariables false

theorem in_ab {g y : Nat} {a b : List Nat} (h : y ∈ g :: a) : y ∈ g :: (a ++ b) := by
  rcases List.mem_cons.1 h with e | e
  · exact List.mem_cons.2 (.inl e)
  · exact List.mem_cons_of_mem _ (List.mem_append_left _ e)
theorem in_ac {g y : Nat} {a b : List Nat} (h : y ∈ g :: b) : y ∈ g :: (a ++ b) := by
  rcases List.mem_cons.1 h with e | e
  · exact List.mem_cons.2 (.inl e)
  · exact List.mem_cons_of_mem _ (List.mem_append_right _ e)
theorem len_sum {α : Type} (f : α → Nat) (l : List α) (h : ∀ x, 1 ≤ f x) : l.length ≤ (l.map f).sum := by
  induction l with
  | nil => exact Nat.le_refl _
  | cons x l ih => simp only [List.length_cons, List.map_cons, List.sum_cons]; have := h x; omega

end Go.Proofs.Ytgmddookohkhlaa

/- The law's own marks on lists of clauses: the walk. -/
namespace Go.Proofs.Ytgmddookohkhlaa
open Go.RowKit
set_option linter.unusedVariables false

end Go.Proofs.Ytgmddookohkhlaa
