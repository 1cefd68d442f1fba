/- Marks: the program's and the model's. -/
import Derived.Test.YthjmbbpakidkdaaTk3
import Derived.Test.YthjmbbpakidkdaaShelf
import Derived.Lib.Strings
import Derived.Lib.Slices
import Derived.Lib.Walk
import Derived.Lib.Bytealg
import Derived.Lib.IndexAny
namespace Go.Proofs.Ythjmbbpakidkdaa
open Go.RowKit
set_option linter.unusedVariables false

/-- The marks of one byte. -/
def ones : List UInt8 := [40, 41, 123, 125, 91, 93, 44, 46, 59, 124, 60, 43, 45, 42]

/-- A mark. -/
def MarkP (s : ByteArray) : Prop := s.data.toList = [45, 62] ∨ s.data.toList = [61, 61] ∨ ∃ c ∈ ones, s.data.toList = [c]

theorem ones_at : ∀ k : Fin 14, ((ByteArray.mk #[40, 41, 123, 125, 91, 93, 44, 46, 59, 124, 60, 43, 45, 42]).extract k (k + 1)).data.toList = [ones.getD k 0] := by decide

theorem ones_piece (k : Nat) (h : k < 14) : ((ByteArray.mk #[40, 41, 123, 125, 91, 93, 44, 46, 59, 124, 60, 43, 45, 42]).extract k (k + 1)).toList = [ones.getD k 0] := by
  rw [Lib.toList_data]; exact ones_at ⟨k, h⟩

theorem ones_mem (c : UInt8) (h : c ∈ ones) : ∃ j, j < 14 ∧ ones.getD j 0 = c := by
  obtain ⟨j, hj, e⟩ := List.getElem_of_mem h
  exact ⟨j, hj, by rw [List.getD_eq_getElem?_getD, List.getElem?_eq_getElem hj]; exact e⟩

theorem ones_mem' (j : Nat) (h : j < 14) : ones.getD j 0 ∈ ones := by
  rw [List.getD_eq_getElem?_getD, List.getElem?_eq_getElem (show j < ones.length from h)]
  exact List.getElem_mem _

theorem list_beq {a b : List UInt8} : (a == b) = true ↔ a = b := by simp
theorem list_bne {a b : List UInt8} : (a == b) = false ↔ ¬ a = b := by simp

theorem hasPrefix_any (s p : ByteArray) (w : World) :
    Calls Try.prog 195 #[.string s, .string p] w fun e w' => e = .returned (.bool (Lib.hasPrefix s.data.toList p.data.toList)) ∧ w = w' :=
  (Try.strings_HasPrefix s p w).mono fun e w' h => ⟨h.1, h.2.symm⟩

theorem indexByte_any (s : ByteArray) (c : Int) (w : World) :
    Calls Try.prog 196 #[.string s, .int .u8 c] w fun e w' => e = .returned (.int .i64 (Lib.indexByte s.data.toList c.toNat.toUInt8)) ∧ w = w' :=
  (Try.strings_IndexByte s c w).mono fun e w' h => ⟨h.1, h.2.symm⟩

end Go.Proofs.Ythjmbbpakidkdaa
