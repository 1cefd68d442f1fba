/- Marks: the program's and the model's. -/
import Derived.Test.YtickaplokjdijaaDoorTk3
import Derived.Test.YtickaplokjdijaaDoorShelf
import Derived.Lib.Strings
import Derived.Lib.Slices
import Derived.Lib.Walk
import Derived.Lib.Bytealg
import Derived.Lib.IndexAny
namespace Go.Proofs.YtickaplokjdijaaDoor
open Go.RowKit
set_option linter.unusedVariables false

/-- The marks of one byte. -/
def ones : List UInt8 := [40, 41, 123, 125, 91, 93, 44, 46, 59, 124, 60, 43, 45, 42]

/-- A mark. -/
def MarkP (s : ByteArray) : Prop := s.data.toList = [45, 62] ∨ s.data.toList = [61, 61] ∨ ∃ c ∈ ones, s.data.toList = [c]

theorem ones_at : ∀ k : Fin 14, ((ByteArray.mk #[40, 41, 123, 125, 91, 93, 44, 46, 59, 124, 60, 43, 45, 42]).extract k (k + 1)).data.toList = [ones.getD k 0] := by decide

theorem ones_piece (k : Nat) (h : k < 14) : ((ByteArray.mk #[40, 41, 123, 125, 91, 93, 44, 46, 59, 124, 60, 43, 45, 42]).extract k (k + 1)).toList = [ones.getD k 0] := by
  rw [Lib.toList_data]; exact ones_at ⟨k, h⟩

theorem ones_mem (c : UInt8) (h : c ∈ ones) : ∃ j, j < 14 ∧ ones.getD j 0 = c := by
  obtain ⟨j, hj, e⟩ := List.getElem_of_mem h
  exact ⟨j, hj, by rw [List.getD_eq_getElem?_getD, List.getElem?_eq_getElem hj]; exact e⟩

theorem ones_mem' (j : Nat) (h : j < 14) : ones.getD j 0 ∈ ones := by
  rw [List.getD_eq_getElem?_getD, List.getElem?_eq_getElem (show j < ones.length from h)]
  exact List.getElem_mem _

theorem list_beq {a b : List UInt8} : (a == b) = true ↔ a = b := by simp
theorem list_bne {a b : List UInt8} : (a == b) = false ↔ ¬ a = b := by simp

set_option maxHeartbeats 1000000 in
set_option maxRecDepth 100000 in
theorem specMarkOk_any (s : ByteArray) (w : World) :
    Calls Tryd.prog 74 #[.string s] w fun e w' => ∃ b : Bool, e = .returned (.bool b) ∧ (b = true ↔ MarkP s) ∧ w = w' := by
  cases h1 : (s.toList == [45, 62])
  · cases h2 : (s.toList == [61, 61])
    · go_enter Tryd.func74, Tryd.ntmps74
      go_wp2_with fail
      go_loop [3] (fun i => ∃ k : Nat, k ≤ 14 ∧ i = .int .i64 k ∧ Hid (∀ j, j < k → ¬ s.data.toList = [ones.getD j 0])) (fun i => 14 - (intOf i).toNat)
      case atStart => exact ⟨0, Nat.zero_le _, rfl, fun j hj => by omega⟩
      case round =>
        obtain ⟨k, hk, rfl, HD⟩ := hrel
        by_cases hlt : k < 14
        · have hp := ones_piece k hlt
          cases hb : (s.toList == ((ByteArray.mk #[40, 41, 123, 125, 91, 93, 44, 46, 59, 124, 60, 43, 45, 42]).extract k (k + 1)).toList)
          · have HR : Hid (∀ j, j < k + 1 → ¬ s.data.toList = [ones.getD j 0]) := fun j hj => by
              by_cases h : j < k
              · exact HD.out j h
              · obtain rfl : j = k := by omega
                have := list_bne.1 hb
                rw [hp, Lib.toList_data] at this
                exact this
            clear HD hp
            go_wp2_with fail
            go_round
            case rel => exact ⟨k + 1, by omega, by go_num, HR⟩
            case measure => simp [intOf]; omega
          · have HR : Hid (MarkP s) := .inr (.inr ⟨_, ones_mem' k hlt, by have := list_beq.1 hb; rw [hp, Lib.toList_data] at this; exact this⟩)
            clear HD hp
            go_wp2_with fail
            go_ret
            exact .inr ⟨rfl, HR.out, rfl⟩
        · have HR : Hid (¬ MarkP s) := fun h => by
            rw [list_bne, Lib.toList_data] at h1 h2
            rcases h with h | h | ⟨c, hc, h⟩
            · exact h1 h
            · exact h2 h
            · obtain ⟨j, hj, rfl⟩ := ones_mem c hc
              exact HD.out j (by omega) h
          have hkk : k = 14 := by omega
          subst hkk
          clear HD hlt
          go_wp2_with fail
          go_ret
          exact .inl ⟨rfl, HR.out, rfl⟩
    · have HR : Hid (MarkP s) := .inr (.inl (by rw [list_beq, Lib.toList_data] at h2; exact h2))
      go_enter Tryd.func74, Tryd.ntmps74
      go_wp2_with fail
      go_ret
      exact ⟨true, rfl, iff_yes HR.out, rfl⟩
  · have HR : Hid (MarkP s) := .inl (by rw [list_beq, Lib.toList_data] at h1; exact h1)
    go_enter Tryd.func74, Tryd.ntmps74
    go_wp2_with fail
    go_ret
    exact ⟨true, rfl, iff_yes HR.out, rfl⟩

theorem hasPrefix_any (s p : ByteArray) (w : World) :
    Calls Tryd.prog 84 #[.string s, .string p] w fun e w' => e = .returned (.bool (Lib.hasPrefix s.data.toList p.data.toList)) ∧ w = w' :=
  (Tryd.strings_HasPrefix s p w).mono fun e w' h => ⟨h.1, h.2.symm⟩

theorem indexByte_any (s : ByteArray) (c : Int) (w : World) :
    Calls Tryd.prog 56 #[.string s, .int .u8 c] w fun e w' => e = .returned (.int .i64 (Lib.indexByte s.data.toList c.toNat.toUInt8)) ∧ w = w' :=
  (Tryd.strings_IndexByte s c w).mono fun e w' h => ⟨h.1, h.2.symm⟩

end Go.Proofs.YtickaplokjdijaaDoor
