/- Whether a pattern fits: the program's. -/
import Derived.Test.YtfcdmmmihiojoaaPf5
import Derived.Deep.WholeRow
namespace Go.Proofs.Ytfcdmmmihiojoaa
open Go.RowKit
set_option linter.unusedVariables false

def fgZero : Array Value := #[.int .i64 0, .int .i64 0] ++ Array.replicate 400 (.bool false)
theorem Try.zeroFitting (V : World) : (zeroValue 42).run Try.prog V = .ok (.agg fgZero) V := (zero_of_info (P := Try.prog) (n := 402) (by kernel_rfl)).1 V
theorem fgZero_size : fgZero.size = 402 := by unfold fgZero; simp
def fgSet (Z : Array Value) (sl : Int) : Array Value := (Z.setIfInBounds 0 (.int .i64 sl)).setIfInBounds 1 (.int .i64 300)
theorem fgSet_at (sl : Int) : (fgSet fgZero sl)[0]? = some (.int .i64 sl) ∧ (fgSet fgZero sl)[1]? = some (.int .i64 300) ∧ ∀ i : Nat, i < 400 → (fgSet fgZero sl)[2 + i]? = some (.bool (decide ((i : Int) ∈ ([] : List Int)))) := by
  have hz := fgZero_size
  unfold fgSet
  refine ⟨?_, ?_, fun i hi => ?_⟩
  · rw [Array.getElem?_setIfInBounds_ne (by omega), Array.getElem?_setIfInBounds_self_of_lt (by omega)]
  · rw [Array.getElem?_setIfInBounds_self_of_lt (by simp; omega)]
  · rw [Array.getElem?_setIfInBounds_ne (by omega), Array.getElem?_setIfInBounds_ne (by omega)]
    unfold fgZero
    rw [Array.getElem?_append_right (by simp)]
    simp [hi]

set_option maxRecDepth 100000 in
set_option maxHeartbeats 4000000 in
theorem implPatFits_any (d : Nat) (vs : List Value) (x : Tm d) (sl : Int) (w : World) (hr : PatR d w vs x) (hw : WfPat d x) (hz : szPatD d x ≤ 1048576) (hi : I64 sl) :
    Calls Try.prog 7 #[.agg vs.toArray, .int .i64 sl] w fun e w' => BRes (pPatFits d x sl) w e w' := by
  cases d with
  | zero => exact hr.elim
  | succ d =>
  obtain ⟨k, n, s, a, l, c, rfl⟩ := PatR.shape _ _ _ _ hr
  obtain ⟨W, hW⟩ : ∃ W, W = w.alloc (.cells #[.int .i64 k, .int .i64 n, .string s, .slice a l c] 29) := ⟨_, rfl⟩
  have hA : Below w.heap.size w W := by rw [hW]; exact (Below.refl _ _).alloc (Nat.le_refl _) _
  by_cases h1 : sl < 0
  · have HF : Hid (¬ pPatFits (d + 1) x sl) := fun h => by have := h.1; omega
    rw [hW] at hA
    clear hr hw hz hW
    go_enter Try.func7, Try.ntmps7
    go_wp2_with fail
    go_ret
    exact bres_no HF.out hA
  by_cases h2 : 400 < sl
  · have HF : Hid (¬ pPatFits (d + 1) x sl) := fun h => by have := h.1; omega
    rw [hW] at hA
    clear hr hw hz hW
    go_enter Try.func7, Try.ntmps7
    go_wp2_with fail
    go_ret
    exact bres_no HF.out hA
  obtain ⟨Z, hZ⟩ : ∃ Z, fgZero = Z := ⟨_, rfl⟩
  have hbd : ∀ V : World, (zeroValue 42).run Try.prog V = .ok (.agg Z) V := fun V => by rw [← hZ]; exact Try.zeroFitting V
  have HZS : Z.size = 402 := by rw [← hZ]; exact fgZero_size
  have hZ1 : ¬ Z = #[] := fun e => by rw [e] at HZS; simp at HZS
  have hZ2 : ¬ Z.size < 2 := by omega
  obtain ⟨V, hV⟩ : ∃ V, V = W.alloc (.cells ((Z.setIfInBounds 0 (.int .i64 sl)).setIfInBounds 1 (.int .i64 300)) 42) := ⟨_, rfl⟩
  have hWz : W.heap.size = w.heap.size + 1 := by rw [hW]; simp
  have hB : Below W.heap.size W V := by rw [hV]; exact (Below.refl _ _).alloc (Nat.le_refl _) _
  have hG : FgA V (w.heap.size + 1) sl 300 [] := by
    refine ⟨_, by rw [hV, ← hWz]; exact heap_alloc_new _ _, by simpa using HZS, ?_⟩
    rw [← hZ]; exact fgSet_at sl
  have hbx : V.heap[w.heap.size]? = some (.cells #[.int .i64 k, .int .i64 n, .string s, .slice a l c] 29 (0, 0)) := (hB.block _ (by omega)).trans (by rw [hW]; exact heap_alloc_new w _)
  have hC := fits_any sl (by omega) (by omega) (d + 1) w _ x 1 300 (w.heap.size + 1) [] V hr hw hz (hA.trans (hB.mono hA.size)) (by omega) hG List.nodup_nil (by omega) (by omega) (by omega) (by omega)
  clear HZS
  have HBV : Hid (Below w.heap.size w V) := hA.trans (hB.mono hA.size)
  have d0 : V.cell? ⟨w.heap.size, 0, none⟩ = some (.int .i64 k) := by rw [cell_of_row V _ 0 _ _ _ hbx]; rfl
  have d1 : V.cell? ⟨w.heap.size, 1, none⟩ = some (.int .i64 n) := by rw [cell_of_row V _ 1 _ _ _ hbx]; rfl
  have d2 : V.cell? ⟨w.heap.size, 2, none⟩ = some (.string s) := by rw [cell_of_row V _ 2 _ _ _ hbx]; rfl
  have d3 : V.cell? ⟨w.heap.size, 3, none⟩ = some (.slice a l c) := by rw [cell_of_row V _ 3 _ _ _ hbx]; rfl
  rw [hV, hW] at hC d0 d1 d2 d3
  have HV : Hid (V = (w.alloc (.cells #[.int .i64 k, .int .i64 n, .string s, .slice a l c] 29)).alloc (.cells ((Z.setIfInBounds 0 (.int .i64 sl)).setIfInBounds 1 (.int .i64 300)) 42)) := by rw [hV, hW]; rfl
  have HI : Hid (FitsP sl (d + 1) 10 300 [] x ↔ pPatFits (d + 1) x sl) := ⟨fun h => ⟨by omega, (fits_pat sl d x).1 h⟩, fun h => (fits_pat sl d x).2 h.2⟩
  clear hr hw hz hW hV hA hB hG hbx hZ hWz
  go_enter Try.func7, Try.ntmps7
  go_wp2_with fail
  refine hC.mono ?_
  clear hC
  rintro e w1 ⟨b, rfl, hb, _, hT⟩
  rw [← HV.out] at hT
  have HB : Hid (Below w.heap.size w w1) := HBV.out.trans (hT.below (by omega) HBV.out.size)
  have HBI : Hid (b = true ↔ pPatFits (d + 1) x sl) := hb.trans HI.out
  clear hb hT d0 d1 d2 d3 hbd
  go_wp2_with fail
  go_ret
  exact ⟨b, rfl, HBI.out, HB.out⟩

end Go.Proofs.Ytfcdmmmihiojoaa
