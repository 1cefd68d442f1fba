/- Nine cells of a worker's box, as they are handed back. -/
import Derived.Test.YtfachfimdenapaaOw4M
namespace Go.Proofs.Ytfachfimdenapaa
open Go.RowKit
set_option linter.unusedVariables false

set_option maxRecDepth 100000 in
set_option maxHeartbeats 4000000 in
theorem res_one (fn : Func) (tmps : Array Value) (k B : Nat) (w : World) (v0 v1 v2 v3 v4 v5 v6 v7 v8 : Value) (hf : fn.results = #[.cell k 33]) (ht : tmps.getD k undef = .pointer (some ⟨B, 0, none⟩)) (h : w.heap[B]? = some (.cells #[v0, v1, v2, v3, v4, v5, v6, v7, v8] 33 (0, 0))) : (results fn tmps).run Try.prog w = .ok (.agg #[v0, v1, v2, v3, v4, v5, v6, v7, v8]) w := by
  have c0 : w.cell? ⟨B, 0, none⟩ = some v0 := by rw [cell_of_row w _ 0 _ _ _ h]; rfl
  have c1 : w.cell? ⟨B, 1, none⟩ = some v1 := by rw [cell_of_row w _ 1 _ _ _ h]; rfl
  have c2 : w.cell? ⟨B, 2, none⟩ = some v2 := by rw [cell_of_row w _ 2 _ _ _ h]; rfl
  have c3 : w.cell? ⟨B, 3, none⟩ = some v3 := by rw [cell_of_row w _ 3 _ _ _ h]; rfl
  have c4 : w.cell? ⟨B, 4, none⟩ = some v4 := by rw [cell_of_row w _ 4 _ _ _ h]; rfl
  have c5 : w.cell? ⟨B, 5, none⟩ = some v5 := by rw [cell_of_row w _ 5 _ _ _ h]; rfl
  have c6 : w.cell? ⟨B, 6, none⟩ = some v6 := by rw [cell_of_row w _ 6 _ _ _ h]; rfl
  have c7 : w.cell? ⟨B, 7, none⟩ = some v7 := by rw [cell_of_row w _ 7 _ _ _ h]; rfl
  have c8 : w.cell? ⟨B, 8, none⟩ = some v8 := by rw [cell_of_row w _ 8 _ _ _ h]; rfl
  have ht' : tmps[k]?.getD undef = .pointer (some ⟨B, 0, none⟩) := by simpa using ht
  first
    | (simp [results, hf, ht', go_sem, c0, c1, c2, c3, c4, c5, c6, c7, c8]; done)
    | (simp [results, hf, ht', go_sem, c0, c1, c2, c3, c4, c5, c6, c7, c8]; rfl)

set_option maxRecDepth 100000 in
set_option maxHeartbeats 4000000 in
theorem res_two (fn : Func) (tmps : Array Value) (k j B : Nat) (b : Bool) (w : World) (v0 v1 v2 v3 v4 v5 v6 v7 v8 : Value) (hf : fn.results = #[.cell k 33, .tmp j]) (ht : tmps.getD k undef = .pointer (some ⟨B, 0, none⟩)) (hj : tmps.getD j undef = .bool b) (h : w.heap[B]? = some (.cells #[v0, v1, v2, v3, v4, v5, v6, v7, v8] 33 (0, 0))) : (results fn tmps).run Try.prog w = .ok (.tuple #[.agg #[v0, v1, v2, v3, v4, v5, v6, v7, v8], .bool b]) w := by
  have c0 : w.cell? ⟨B, 0, none⟩ = some v0 := by rw [cell_of_row w _ 0 _ _ _ h]; rfl
  have c1 : w.cell? ⟨B, 1, none⟩ = some v1 := by rw [cell_of_row w _ 1 _ _ _ h]; rfl
  have c2 : w.cell? ⟨B, 2, none⟩ = some v2 := by rw [cell_of_row w _ 2 _ _ _ h]; rfl
  have c3 : w.cell? ⟨B, 3, none⟩ = some v3 := by rw [cell_of_row w _ 3 _ _ _ h]; rfl
  have c4 : w.cell? ⟨B, 4, none⟩ = some v4 := by rw [cell_of_row w _ 4 _ _ _ h]; rfl
  have c5 : w.cell? ⟨B, 5, none⟩ = some v5 := by rw [cell_of_row w _ 5 _ _ _ h]; rfl
  have c6 : w.cell? ⟨B, 6, none⟩ = some v6 := by rw [cell_of_row w _ 6 _ _ _ h]; rfl
  have c7 : w.cell? ⟨B, 7, none⟩ = some v7 := by rw [cell_of_row w _ 7 _ _ _ h]; rfl
  have c8 : w.cell? ⟨B, 8, none⟩ = some v8 := by rw [cell_of_row w _ 8 _ _ _ h]; rfl
  have ht' : tmps[k]?.getD undef = .pointer (some ⟨B, 0, none⟩) := by simpa using ht
  have hj' : tmps[j]?.getD undef = .bool b := by simpa using hj
  first
    | (simp [results, hf, ht', hj', go_sem, c0, c1, c2, c3, c4, c5, c6, c7, c8]; done)
    | (simp [results, hf, ht', hj', go_sem, c0, c1, c2, c3, c4, c5, c6, c7, c8]; rfl)

end Go.Proofs.Ytfachfimdenapaa
