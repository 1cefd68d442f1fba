/- Searches and questions over lists, as data. -/
import Derived.Test.YtkfpfijblflcfaaDt0
namespace Go.Proofs.Ytkfpfijblflcfaa
open Go.RowKit
set_option linter.unusedVariables false

/-- The first place of which p holds; -1: there is none. -/
def fidx {α : Type} (p : α → Bool) (l : List α) : Int := match l.findIdx? p with | some i => (i : Int) | none => -1

theorem fidx_hit {α : Type} {p : α → Bool} {l : List α} {k : Nat} {x : α} (hx : l[k]? = some x) (hp : p x = true) (hn : ∀ (j : Nat) (y : α), j < k → l[j]? = some y → p y = false) : fidx p l = k := by
  have : l.findIdx? p = some k := by
    rw [List.findIdx?_eq_some_iff_getElem]
    obtain ⟨h1, h2⟩ := List.getElem?_eq_some_iff.1 hx
    refine ⟨h1, by rw [h2]; exact hp, fun j hj => ?_⟩
    have := hn j l[j] hj (List.getElem?_eq_getElem (by omega))
    simp [this]
  unfold fidx
  rw [this]
theorem fidx_none {α : Type} {p : α → Bool} {l : List α} (hn : ∀ (j : Nat) (y : α), j < l.length → l[j]? = some y → p y = false) : fidx p l = -1 := by
  have : l.findIdx? p = none := by
    rw [List.findIdx?_eq_none_iff]
    intro x hx
    obtain ⟨j, hj, rfl⟩ := List.mem_iff_getElem.1 hx
    exact hn j _ hj (List.getElem?_eq_getElem hj)
  unfold fidx
  rw [this]
theorem fidx_cases {α : Type} (p : α → Bool) (l : List α) : (fidx p l = -1 ∧ ∀ x ∈ l, p x = false) ∨ ∃ (k : Nat) (x : α), fidx p l = k ∧ l[k]? = some x ∧ p x = true ∧ ∀ (j : Nat) (y : α), j < k → l[j]? = some y → p y = false := by
  cases h : l.findIdx? p with
  | none =>
    refine .inl ⟨by unfold fidx; rw [h], fun x hx => ?_⟩
    exact (List.findIdx?_eq_none_iff.1 h) x hx
  | some k =>
    obtain ⟨h1, h2, h3⟩ := List.findIdx?_eq_some_iff_getElem.1 h
    refine .inr ⟨k, l[k], by unfold fidx; rw [h], List.getElem?_eq_getElem h1, h2, fun j y hj hy => ?_⟩
    obtain ⟨q1, q2⟩ := List.getElem?_eq_some_iff.1 hy
    have := h3 j hj
    rw [q2] at this
    simpa using this

theorem later_step {α : Type} {p : α → Bool} {l : List α} {k : Nat} {x : α} (hx : l[k]? = some x) (hp : p x = false) (hn : ∀ (j : Nat) (y : α), j < k → l[j]? = some y → p y = false) : ∀ (j : Nat) (y : α), j < k + 1 → l[j]? = some y → p y = false := fun j y hj hy => by
  rcases Nat.lt_or_ge j k with q | q
  · exact hn j y q hy
  · obtain rfl : j = k := by omega
    rw [hx] at hy
    cases hy
    exact hp

/-- p holds at every place. -/
def allI {α : Type} (p : Nat → α → Bool) (l : List α) : Bool := (List.range l.length).all fun i => match l[i]? with | some x => p i x | none => true

theorem allI_no {α : Type} {p : Nat → α → Bool} {l : List α} {k : Nat} {x : α} (hx : l[k]? = some x) (hp : p k x = false) : allI p l = false := by
  unfold allI
  rw [List.all_eq_false]
  exact ⟨k, List.mem_range.2 (List.getElem?_eq_some_iff.1 hx).1, by rw [hx]; simp [hp]⟩
theorem allI_yes {α : Type} {p : Nat → α → Bool} {l : List α} (hn : ∀ (j : Nat) (y : α), j < l.length → l[j]? = some y → p j y = true) : allI p l = true := by
  unfold allI
  rw [List.all_eq_true]
  intro i hi
  have hi' := List.mem_range.1 hi
  rw [List.getElem?_eq_getElem hi']
  exact hn i _ hi' (List.getElem?_eq_getElem hi')
theorem allI_step {α : Type} {p : Nat → α → Bool} {l : List α} {k : Nat} {x : α} (hx : l[k]? = some x) (hp : p k x = true) (hn : ∀ (j : Nat) (y : α), j < k → l[j]? = some y → p j y = true) : ∀ (j : Nat) (y : α), j < k + 1 → l[j]? = some y → p j y = true := fun j y hj hy => by
  rcases Nat.lt_or_ge j k with q | q
  · exact hn j y q hy
  · obtain rfl : j = k := by omega
    rw [hx] at hy
    cases hy
    exact hp
theorem allI_iff {α : Type} {p : Nat → α → Bool} {l : List α} : allI p l = true ↔ ∀ (j : Nat) (y : α), l[j]? = some y → p j y = true := by
  constructor
  · intro h j y hy
    cases e : p j y with
    | true => rfl
    | false => rw [allI_no hy e] at h; cases h
  · intro h; exact allI_yes fun j y _ hy => h j y hy

theorem str_same0 {a b : ByteArray} (h : a.toList = b.toList) : a = b := by
  rw [ByteArray.toList_eq, ByteArray.toList_eq] at h
  exact ByteArray.ext (Array.toList_inj.mp h)
theorem str_beq (a b : ByteArray) : (a.toList == b.toList) = decide (a = b) := by
  by_cases h : a = b
  · subst h; simp
  · rw [decide_eq_false h, beq_eq_false_iff_ne]; exact fun e => h (str_same0 e)

/-- That a number lies between two. -/
def inI (x a b : Int) : Bool := decide (a ≤ x) && decide (x ≤ b)

theorem szL_len {d : Nat} (ts : List (Tm (d + 1))) : ts.length ≤ szL (d + 1) ts := Nat.le_add_right _ _
theorem szRow_len {α : Type} (f : α → Nat) (xs : List α) : xs.length ≤ szRow f xs := Nat.le_add_right _ _

end Go.Proofs.Ytkfpfijblflcfaa
