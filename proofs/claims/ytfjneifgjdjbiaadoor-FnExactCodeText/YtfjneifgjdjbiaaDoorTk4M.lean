/- Marks: the program's and the model's. -/
import Derived.Test.YtfjneifgjdjbiaaDoorIOkM
import Derived.Test.YtfjneifgjdjbiaaDoorShelf
import Derived.Lib.Strings
import Derived.Lib.Slices
import Derived.Lib.Walk
import Derived.Lib.Bytealg
import Derived.Lib.IndexAny
namespace Go.Proofs.YtfjneifgjdjbiaaDoor
open Go.RowKit
set_option linter.unusedVariables false

/-- The marks of one byte. -/
def ones : List UInt8 := [40, 41, 123, 125, 91, 93, 44, 46, 59, 124, 60, 43, 45, 42]

/-- A mark. -/
def MarkP (s : ByteArray) : Prop := s.data.toList = [45, 62] ∨ s.data.toList = [61, 61] ∨ ∃ c ∈ ones, s.data.toList = [c]

theorem ones_at : ∀ k : Fin 14, ((ByteArray.mk #[40, 41, 123, 125, 91, 93, 44, 46, 59, 124, 60, 43, 45, 42]).extract k (k + 1)).data.toList = [ones.getD k 0] := by decide

theorem ones_piece (k : Nat) (h : k < 14) : ((ByteArray.mk #[40, 41, 123, 125, 91, 93, 44, 46, 59, 124, 60, 43, 45, 42]).extract k (k + 1)).toList = [ones.getD k 0] := by
  rw [Lib.toList_data]; exact ones_at ⟨k, h⟩

theorem ones_mem (c : UInt8) (h : c ∈ ones) : ∃ j, j < 14 ∧ ones.getD j 0 = c := by
  obtain ⟨j, hj, e⟩ := List.getElem_of_mem h
  exact ⟨j, hj, by rw [List.getD_eq_getElem?_getD, List.getElem?_eq_getElem hj]; exact e⟩

theorem ones_mem' (j : Nat) (h : j < 14) : ones.getD j 0 ∈ ones := by
  rw [List.getD_eq_getElem?_getD, List.getElem?_eq_getElem (show j < ones.length from h)]
  exact List.getElem_mem _

theorem list_beq {a b : List UInt8} : (a == b) = true ↔ a = b := by simp
theorem list_bne {a b : List UInt8} : (a == b) = false ↔ ¬ a = b := by simp

end Go.Proofs.YtfjneifgjdjbiaaDoor

/- Marks, the program's; and what a token is: the program's and the model's. -/
namespace Go.Proofs.YtfjneifgjdjbiaaDoor
open Go.RowKit
set_option linter.unusedVariables false

/-- How many bytes the mark has that a text begins with; 0: none. -/
def mkn (l : List UInt8) : Int := if Lib.hasPrefix l [45, 62] = true ∨ Lib.hasPrefix l [61, 61] = true then 2 else if ones.contains (l.headD 0) = true then 1 else 0

theorem pre2 (l : List UInt8) (a b : UInt8) : Lib.hasPrefix l [a, b] = true ↔ ∃ r, l = a :: b :: r := by
  unfold Lib.hasPrefix
  rw [List.isPrefixOf_iff_prefix]
  constructor
  · rintro ⟨r, rfl⟩; exact ⟨r, rfl⟩
  · rintro ⟨r, rfl⟩; exact ⟨r, rfl⟩

theorem mkn_range (l : List UInt8) : 0 ≤ mkn l ∧ mkn l ≤ 2 := by unfold mkn; split; omega; split <;> omega

theorem mkn_le (l : List UInt8) (h : l ≠ []) : mkn l ≤ l.length := by
  unfold mkn
  split
  · rename_i h1
    rw [pre2, pre2] at h1
    rcases h1 with ⟨r, rfl⟩ | ⟨r, rfl⟩ <;> simp <;> omega
  · split
    · cases l
      · exact absurd rfl h
      · simp; omega
    · omega

/-- What it is of the first bytes. -/
theorem markP_iff (s : ByteArray) (h : 0 < s.size) : MarkP s ↔ mkn s.data.toList = s.size := by
  unfold MarkP
  rw [Lib.size_eq] at h ⊢
  generalize s.data.toList = l at h ⊢
  match l, h with
  | [c], _ =>
    have e1 : ¬ (Lib.hasPrefix [c] [45, 62] = true ∨ Lib.hasPrefix [c] [61, 61] = true) := by
      rw [pre2, pre2]; rintro (⟨r, h⟩ | ⟨r, h⟩) <;> simp at h
    unfold mkn
    rw [if_neg e1]
    simp only [List.headD_cons, List.length_singleton, List.contains_iff_mem]
    constructor
    · rintro (h | h | ⟨d, hd, h⟩)
      · simp at h
      · simp at h
      · simp only [List.cons.injEq, and_true] at h
        subst h
        rw [if_pos hd]; rfl
    · intro h
      by_cases hc : c ∈ ones
      · exact .inr (.inr ⟨c, hc, rfl⟩)
      · rw [if_neg hc] at h; simp at h
  | [a, b], _ =>
    have e1 := pre2 [a, b] 45 62
    have e2 := pre2 [a, b] 61 61
    unfold mkn
    constructor
    · rintro (h | h | ⟨d, hd, h⟩)
      · rw [if_pos (.inl (e1.2 ⟨[], h⟩))]; rfl
      · rw [if_pos (.inr (e2.2 ⟨[], h⟩))]; rfl
      · simp at h
    · intro h
      by_cases hc : Lib.hasPrefix [a, b] [45, 62] = true ∨ Lib.hasPrefix [a, b] [61, 61] = true
      · rcases hc with hc | hc
        · obtain ⟨r, hr⟩ := e1.1 hc
          exact .inl (by simp only [List.cons.injEq] at hr ⊢; exact ⟨hr.1, hr.2.1, trivial⟩)
        · obtain ⟨r, hr⟩ := e2.1 hc
          exact .inr (.inl (by simp only [List.cons.injEq] at hr ⊢; exact ⟨hr.1, hr.2.1, trivial⟩))
      · rw [if_neg hc] at h
        split at h <;> simp at h
  | a :: b :: c :: r, _ =>
    constructor
    · rintro (h | h | ⟨d, hd, h⟩) <;> simp at h
    · intro h
      have := mkn_range (a :: b :: c :: r)
      simp at h
      omega

/-- A token. -/
def TokP (k n : Int) (s : ByteArray) : Prop :=
  (k = 1 ∧ (0 ≤ n ∧ n ≤ 1000000000000) ∧ s.size = 0) ∨ (k = 2 ∧ AtomP s ∧ n = 0) ∨ (k = 3 ∧ NameP s ∧ n = 0) ∨ (k = 4 ∧ MarkP s ∧ n = 0)

theorem tokP1 (n : Int) (s : ByteArray) : TokP 1 n s ↔ (0 ≤ n ∧ n ≤ 1000000000000) ∧ s.size = 0 := by simp [TokP]
theorem tokP2 (n : Int) (s : ByteArray) : TokP 2 n s ↔ AtomP s ∧ n = 0 := by simp [TokP]
theorem tokP3 (n : Int) (s : ByteArray) : TokP 3 n s ↔ NameP s ∧ n = 0 := by simp [TokP]
theorem tokP4 (n : Int) (s : ByteArray) : TokP 4 n s ↔ MarkP s ∧ n = 0 := by simp [TokP]

/-- The contract of a check of a token. -/
def TokC (f : Nat) : Prop := ∀ (k n : Int) (s : ByteArray) (w : World), s.size ≤ 9223372036854775807 →
  Calls Tryd.prog f #[.agg #[.int .i64 k, .int .i64 n, .string s]] w fun e w' => ∃ b : Bool, e = .returned (.bool b) ∧ (b = true ↔ TokP k n s) ∧ Below w.heap.size w w'

theorem tok_alloc (w : World) (o : Obj) : Below w.heap.size w (w.alloc o) := (Below.refl _ _).alloc (Nat.le_refl _) _

end Go.Proofs.YtfjneifgjdjbiaaDoor
