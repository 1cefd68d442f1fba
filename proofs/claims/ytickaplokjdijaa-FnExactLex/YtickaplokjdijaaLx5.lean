/- The program's reading of one token. -/
import Derived.Test.YtickaplokjdijaaLx4
import Derived.Test.YtickaplokjdijaaBytes
import Derived.Lib.IndexLaws
import Derived.Lib.BufferWrite
import Derived.Lib.UnsafeStr
import Derived.Laws.MakeOwn
namespace Go.Proofs.Ytickaplokjdijaa
open Go.RowKit
set_option linter.unusedVariables false

set_option maxHeartbeats 4000000 in
set_option maxRecDepth 100000 in
theorem liteClone_any (s : ByteArray) (w : World) (hlim : s.size ≤ 281474976710656) :
    Calls Try.prog 151 #[.string s] w fun e w' => e = .returned (.string s) ∧ Below w.heap.size w w' := by
  by_cases h0 : s.size = 0
  · have hs : s = ⟨#[]⟩ := by
      apply ByteArray.ext
      exact Array.eq_empty_of_size_eq_zero h0
    subst hs
    go_enter Try.func151, Try.ntmps151
    go_wp2
    go_ret
    exact ⟨rfl, Below.refl _ _⟩
  · obtain ⟨i0, hi, hz0, hz1, hz2⟩ := info_parts Try.info5
    have hinfo : (Try.prog.info? 5).map (·.size) = some 1 := by rw [hi]; simp [hz1]
    have hco : Try.prog.cellsOf 5 = 1 := by simp [Program.cellsOf, hi, hz1]
    obtain ⟨M, hM⟩ : ∃ M, M = madeCells (Value.int .u8 0).cells (((s.size : Nat) : Int).toNat * i0.size) := ⟨_, rfl⟩
    have hMs : M.size = s.size := by rw [hM, size_madeCells, hz1]; simp
    have hmk : ∀ W : World, (Instr.makeSlice 22 (.int .i64 (s.size : Int)) (.int .i64 (s.size : Int))).run Try.prog W = .ok (.slice (some ⟨W.heap.size, 0, none⟩) s.size s.size) (W.alloc (.cells M 5)) := fun W => by
      have h := run_make (P := Try.prog) W 22 5 i0 (.int .u8 0) Try.underlying22 hi hz0 .i64 .i64 (s.size : Int) (s.size : Int) (by omega) (by omega) (by rw [hz2]; omega) (by omega)
      rw [← hM] at h
      simpa using h
    clear hM
    have hcp := Lib.run_copy_row_string (P := Try.prog) (w.alloc (.cells M 5)) 22 9 3 5 w.heap.size 0 s.size s.size s M 5 Try.underlying22 hinfo (heap_alloc_new w _) (Nat.le_refl _) (by omega)
    obtain ⟨Y, hY⟩ : ∃ Y, Y = (M.toList.take 0 ++ Lib.byteCells s.data.toList ++ M.toList.drop (0 + s.size)).toArray := ⟨_, rfl⟩
    rw [← hY] at hcp
    have hYl : Y.toList = Lib.byteCells s.data.toList := by
      rw [hY, List.toList_toArray, List.take_zero, List.nil_append, List.drop_of_length_le (by rw [Array.length_toList]; omega), List.append_nil]
    have hYs : Y.size = s.size := by rw [← Array.length_toList, hYl, Lib.byteCells_length, ← Lib.size_eq]
    have hgY : ((w.alloc (.cells M 5)).setRow w.heap.size Y).heap[w.heap.size]? = some (.cells Y 5 (0, 0)) := setRow_heap _ _ M _ 5 (0, 0) (heap_alloc_new w _)
    have hne : s.data.toList ≠ [] := fun e => h0 (by rw [Lib.size_eq, e]; rfl)
    have hUS := Lib.run_unsafeString_row (P := Try.prog) ((w.alloc (.cells M 5)).setRow w.heap.size Y) 172 3 9 5 Try.underlying172 hco w.heap.size Y.size (by unfold World.shape?; rw [hgY]) s.data.toList hne (by rw [← Lib.size_eq]; omega) (by rw [← Lib.size_eq]; omega)
      (fun j x hx => Lib.cells_of_row hgY Y.size j _ (by rw [List.take_of_length_le (by rw [Array.length_toList]; exact Nat.le_refl _), hYl]; simp [Lib.byteCells, hx]))
    rw [← Lib.size_eq] at hUS
    clear hY
    go_enter Try.func151, Try.ntmps151
    go_wp2
    go_ret
    have hb1 : Below w.heap.size w (w.alloc (.cells M 5)) := (Below.refl _ w).alloc (Nat.le_refl _) _
    have hb2 : Below w.heap.size (w.alloc (.cells M 5)) ((w.alloc (.cells M 5)).setRow w.heap.size Y) := ⟨rfl, rfl, rfl, by simp, fun k hk => setRow_other _ _ _ _ (by omega)⟩
    exact ⟨rfl, Lib.below_freeze (hb1.trans hb2) (p := ⟨w.heap.size, 0, none⟩) (Nat.le_refl _) _⟩

theorem clone_any (s : ByteArray) (w : World) (hlim : s.size ≤ 281474976710656) :
    Calls Try.prog 132 #[.string s] w fun e w' => e = .returned (.string s) ∧ Below w.heap.size w w' := by
  have hL := liteClone_any s w hlim
  go_enter Try.func132, Try.ntmps132
  go_wp2_with fail
  refine hL.mono ?_
  clear hL
  rintro e w' ⟨rfl, hb⟩
  go_wp2_with fail
  go_ret
  exact ⟨rfl, hb⟩

theorem line_run (s : ByteArray) (q : Int) (h : Lib.indexByte s.data.toList 10 = q) : (q < 0 → RunTo nlB s 0 s.size) ∧ (¬ q < 0 → ∃ k : Nat, q = k ∧ RunTo nlB s 0 k) := by
  have hat : ∀ j (hj : j < s.size), s.data.toList[j]? = some s[j] := fun j hj => by
    rw [List.getElem?_eq_getElem (by rw [← Lib.size_eq]; exact hj)]; rfl
  have hnl : ∀ c : UInt8, c ≠ 10 → nlB (c.toNat : Int) = true := fun c hc => by
    have : c.toNat ≠ 10 := fun h => hc (by rw [← UInt8.toNat_inj]; exact h)
    simp only [nlB, Bool.not_eq_true', beq_eq_false_iff_ne, ne_eq]
    omega
  constructor
  · intro hq
    have h1 : Lib.indexByte s.data.toList 10 = -1 := by have := Lib.indexByte_ge s.data.toList 10; omega
    refine ⟨Nat.zero_le _, Nat.le_refl _, fun j hj _ _ => hnl _ fun hc => ?_, fun h => absurd h (Nat.lt_irrefl _)⟩
    exact Lib.indexByte_none h1 j (by rw [hat j hj, hc])
  · intro hq
    obtain ⟨k, hk⟩ : ∃ k : Nat, q = k := ⟨q.toNat, by omega⟩
    rw [hk] at h
    obtain ⟨h1, h2⟩ := Lib.indexByte_some h
    have hks : k < s.size := by
      rw [Lib.size_eq]
      exact (List.getElem?_eq_some_iff.1 h1).1
    refine ⟨k, hk, Nat.zero_le _, by omega, fun j hj _ hjk => hnl _ fun hc => h2 j hjk (by rw [hat j hj, hc]), fun h3 => ?_⟩
    rw [hat k hks] at h1
    have : s[k] = 10 := Option.some.inj h1
    rw [this]; rfl

theorem lineSize_any (s : ByteArray) (w : World) (hs : s.size ≤ 1099511627776) :
    Calls Try.prog 88 #[.string s] w fun e w' => ∃ k : Nat, e = .returned (.int .i64 k) ∧ Hid (RunTo nlB s 0 k) ∧ w = w' := by
  have hL := indexByte_any s 10 w
  obtain ⟨q, hq⟩ : ∃ q, Lib.indexByte s.data.toList 10 = q := ⟨_, rfl⟩
  have hR := line_run s q hq
  change Calls _ _ _ _ fun e w' => e = .returned (.int .i64 (Lib.indexByte s.data.toList 10)) ∧ w = w' at hL
  rw [hq] at hL
  clear hq
  by_cases h : q < 0
  · have HR : Hid (RunTo nlB s 0 s.size) := hR.1 h
    clear hR
    go_enter Try.func88, Try.ntmps88
    go_wp2_with fail
    refine hL.mono ?_
    clear hL
    rintro e w' ⟨rfl, rfl⟩
    go_wp2_with fail
    go_ret
    exact ⟨s.size, rfl, HR, rfl⟩
  · obtain ⟨k, rfl, hk⟩ := hR.2 h
    have HR : Hid (RunTo nlB s 0 k) := hk
    have hb : decide ((k : Int) < 0) = false := by simp
    clear hR hk h
    go_enter Try.func88, Try.ntmps88
    go_wp2_with fail
    refine hL.mono ?_
    clear hL
    rintro e w' ⟨rfl, rfl⟩
    go_wp2_with fail
    go_ret
    exact ⟨k, rfl, HR, rfl⟩

end Go.Proofs.Ytickaplokjdijaa
