/- The model's names of an expression. -/
import Derived.Test.YtjdhkhpdhblhbaaXmM
import Derived.Test.YtjdhkhpdhblhbaaNumM
import Derived.Test.YtjdhkhpdhblhbaaGetTM
namespace Go.Proofs.Ytjdhkhpdhblhbaa
open Go.RowKit
set_option linter.unusedVariables false

/-- The name that an expression is itself. -/
def ownName (k : Int) (s : ByteArray) : List ByteArray := if k = 3 ∧ s ≠ ⟨#[95]⟩ then [s] else []

/-- The names of an expression, from the left. -/
def vars : (d : Nat) → Ex d → List ByteArray
  | 0, _ => []
  | d + 1, e => ownName e.K e.S ++ e.E.flatMap (vars d)

theorem ownName_len (k : Int) (s : ByteArray) : (ownName k s).length ≤ 1 := by unfold ownName; split <;> simp

theorem vars_len : ∀ (d : Nat) (e : Ex d), (vars d e).length ≤ 1 + szX d e := by
  intro d
  induction d with
  | zero => intro e; exact Nat.zero_le _
  | succ d ih =>
    intro e
    have h1 := ownName_len e.K e.S
    have h2 : (e.E.flatMap (vars d)).length ≤ szRow (szX d) e.E := by
      unfold szRow
      generalize e.E = l
      induction l with
      | nil => exact Nat.zero_le _
      | cons x l ihl => simp only [List.flatMap_cons, List.length_append, List.map_cons, List.sum_cons, List.length_cons]; have := ih x; omega
    show (ownName e.K e.S ++ e.E.flatMap (vars d)).length ≤ 1 + (e.S.size + szRow (szX d) e.E + szRow (ClF (szX d)) e.C)
    rw [List.length_append]
    omega

/-- A row of texts in memory of one's own. -/
def StrRow (w : World) (B : Nat) (v : Value) (l : List ByteArray) : Prop := w.ownsRow B 9 1 v l.length (l.map Value.string)

theorem Try.infoStr : (Try.prog.info? 9).map (fun i => (i.zero, i.size, i.bytes)) = some (some (.string ⟨#[]⟩), 1, 16) := by kernel_rfl

theorem StrRow.cells {w : World} {B g n c : Nat} {l : List ByteArray} (h : StrRow w B (.slice (some ⟨g, 0, none⟩) n c) l) : n = l.length ∧ ∀ (j : Nat) (u : Value), (l.map Value.string)[j]? = some u → w.cell? ((⟨g, 0, none⟩ : Addr).add j) = some u := by
  rcases h.2 with ⟨e, _⟩ | ⟨g', cap, cur, e, _, hg, _, _, hs, ht⟩
  · cases e
  · simp only [Value.slice.injEq, Option.some.injEq, Addr.mk.injEq, and_true] at e
    obtain ⟨rfl, rfl, rfl⟩ := e
    refine ⟨rfl, fun j u hu => ?_⟩
    have hj : j < l.length := by have := (List.getElem?_eq_some_iff.1 hu).1; simpa using this
    rw [Addr.add_lit, Nat.zero_add, cell_of_row w _ _ _ _ _ hg]
    rw [Nat.mul_one] at ht
    rw [← ht, List.getElem?_take, if_pos hj] at hu
    simpa using hu

theorem StrRow.kept {w w' : World} {B : Nat} {v : Value} {l : List ByteArray} (h : StrRow w B v l) (hk : ∀ g, v.ownBlock = some g → w'.heap[g]? = w.heap[g]?) : StrRow w' B v l := rowKept h hk
theorem StrRow.blk {w : World} {B : Nat} {v : Value} {l : List ByteArray} (h : StrRow w B v l) : ∀ g, v.ownBlock = some g → B ≤ g ∧ g < w.heap.size := fun g hg => by
  rcases h.2 with ⟨e, _⟩ | ⟨g', c', cur, e1, e2, e3, _⟩
  · rw [e] at hg; cases hg
  · rw [e1] at hg
    obtain rfl : g' = g := by simpa [Value.ownBlock] using hg
    exact ⟨e2, lt_row e3⟩
theorem StrRow.empty {w : World} {g B : Nat} (h : w.heap[g]? = some (.cells #[] 9 (0, 0))) (hB : B ≤ g) : StrRow w B (.slice (some ⟨g, 0, none⟩) 0 0) [] :=
  ⟨rfl, .inr ⟨g, 0, #[], rfl, hB, h, Nat.le_refl _, Nat.zero_le _, rfl, rfl⟩⟩
theorem StrRow.ptr {w w' : World} {B : Nat} {v v' : Value} {l : List ByteArray} (h : StrRow w B v' l) (hv : v' = .slice none 0 0 ↔ v = .slice none 0 0 ∧ False) : ∃ g n c, v' = .slice (some ⟨g, 0, none⟩) n c := by
  rcases h.2 with ⟨e, _⟩ | ⟨g', c', cur, e1, _⟩
  · exact absurd (hv.1 e).2 id
  · exact ⟨_, _, _, e1⟩

theorem new_one {w : World} {B : Nat} (v : Value) (t : TypeId) (hB : w.heap.size = B) : ∀ j u, [v][j]? = some u → (w.alloc (.cells #[v] t)).cell? ((⟨B, 0, none⟩ : Addr).add j) = some u := by
  intro j u hu
  subst hB
  cases j with
  | zero =>
    simp only [List.getElem?_cons_zero, Option.some.injEq] at hu
    subst hu
    rw [Addr.add_lit, cell_of_row _ _ _ _ _ _ (heap_alloc_new w (.cells #[v] t))]
    rfl
  | succ j => simp at hu

theorem bytes_is {S : ByteArray} {l : List UInt8} {A : ByteArray} (hA : A.toList = l) : (S.toList == l) = decide (S = A) := by
  by_cases h : S = A
  · subst h; simp [hA]
  · have : S.toList ≠ l := fun e => h (by
      have hz : S.toList = A.toList := by rw [e, hA]
      rw [ByteArray.toList_eq, ByteArray.toList_eq] at hz
      exact ByteArray.ext (Array.toList_inj.mp hz))
    simp [h, this]

end Go.Proofs.Ytjdhkhpdhblhbaa
