/- The law's own comparison of functions and modules; how a module that came in is read. -/
import Derived.Test.YtpokheklplcamaaMo2
import Derived.Test.YtpokheklplcamaaXRead
namespace Go.Proofs.Ytpokheklplcamaa
open Go.RowKit
set_option linter.unusedVariables false

set_option maxHeartbeats 1000000 in
theorem eqFun_any (d : Nat) : EqEl 85 (FuR d) (WfF d) := by
  rintro vs1 vs2 x w ⟨vp, vx, rfl, h1, h2⟩ ⟨vp', vx', rfl, h1', h2'⟩ ⟨_, w2, w3⟩
  obtain ⟨a1, c1, rfl⟩ := h1.slice
  obtain ⟨b1, d1, rfl⟩ := h1'.slice
  obtain ⟨l1, e1⟩ : ∃ l, x.ps.length = l := ⟨_, rfl⟩
  rw [e1] at h1 h1' ⊢
  obtain ⟨i2, i3, s4, a5, l5, c5, a6, l6, c6, rfl⟩ := ExR.shape d _ _ _ h2
  obtain ⟨j2, j3, t4, b5, m5, d5, b6, m6, d6, rfl⟩ := ExR.shape d _ _ _ h2'
  obtain ⟨S, hS⟩ : ∃ S, x.nm = S := ⟨_, rfl⟩
  rw [hS]
  obtain ⟨W, hW⟩ : ∃ W, W = (w.alloc (Obj.cells #[.string S, .slice a1 l1 c1, .int .i64 i2, .int .i64 i3, .string s4, .slice a5 l5 c5, .slice a6 l6 c6] 100)).alloc (Obj.cells #[.string S, .slice b1 l1 d1, .int .i64 j2, .int .i64 j3, .string t4, .slice b5 m5 d5, .slice b6 m6 d6] 100) := ⟨_, rfl⟩
  have hA : Below w.heap.size w W := by rw [hW]; exact ((Below.refl _ _).alloc (Nat.le_refl _) _).alloc (by simp) _
  have n1 : W.heap[w.heap.size]? = some (Obj.cells #[.string S, .slice a1 l1 c1, .int .i64 i2, .int .i64 i3, .string s4, .slice a5 l5 c5, .slice a6 l6 c6] 100 (0, 0)) := by rw [hW, Below.heap_alloc _ _ _ (by simp)]; exact heap_alloc_new w _
  have n2 : W.heap[w.heap.size + 1]? = some (Obj.cells #[.string S, .slice b1 l1 d1, .int .i64 j2, .int .i64 j3, .string t4, .slice b5 m5 d5, .slice b6 m6 d6] 100 (0, 0)) := by rw [hW]; have := heap_alloc_new (w.alloc (Obj.cells #[.string S, .slice a1 l1 c1, .int .i64 i2, .int .i64 i3, .string s4, .slice a5 l5 c5, .slice a6 l6 c6] 100)) (Obj.cells #[.string S, .slice b1 l1 d1, .int .i64 j2, .int .i64 j3, .string t4, .slice b5 m5 d5, .slice b6 m6 d6] 100); simpa using this
  have hC := eqStrs_any _ _ x.ps W (row_tell (h1.later StR.lasts hA)) (row_tell (h1'.later StR.lasts hA)) w2.1
  have H2 : Hid (∀ V : World, Below w.heap.size w V → _) := fun V hV => eqExpr_any d _ _ x.x V (ExR.lasts d _ _ _ _ h2 hV) (ExR.lasts d _ _ _ _ h2' hV) w3
  rw [hW] at hC
  have HW : Hid (W = _) := hW
  have HN : Hid (_ ∧ _) := ⟨n1, n2⟩
  clear hW n1 n2 h1 h2 h1' h2' w2 w3 hS e1
  go_enter Try.func85, Try.ntmps85
  go_wp2_with fail
  refine hC.mono ?_
  clear hC
  rintro e w1 ⟨rfl, hb1⟩
  rw [← HW.out] at hb1
  have hb2 : Below w.heap.size w w1 := hA.trans (hb1.mono hA.size)
  obtain ⟨n1, n2⟩ := HN.out
  have m1 := (hb1.block _ (lt_row n1)).trans n1
  have m2 := (hb1.block _ (lt_row n2)).trans n2
  have f2 : w1.cell? ⟨w.heap.size, 2, none⟩ = some (.int .i64 i2) := by rw [cell_of_row w1 _ 2 _ _ _ m1]; rfl
  have f3 : w1.cell? ⟨w.heap.size, 3, none⟩ = some (.int .i64 i3) := by rw [cell_of_row w1 _ 3 _ _ _ m1]; rfl
  have f4 : w1.cell? ⟨w.heap.size, 4, none⟩ = some (.string s4) := by rw [cell_of_row w1 _ 4 _ _ _ m1]; rfl
  have f5 : w1.cell? ⟨w.heap.size, 5, none⟩ = some (.slice a5 l5 c5) := by rw [cell_of_row w1 _ 5 _ _ _ m1]; rfl
  have f6 : w1.cell? ⟨w.heap.size, 6, none⟩ = some (.slice a6 l6 c6) := by rw [cell_of_row w1 _ 6 _ _ _ m1]; rfl
  have g2 : w1.cell? ⟨w.heap.size + 1, 2, none⟩ = some (.int .i64 j2) := by rw [cell_of_row w1 _ 2 _ _ _ m2]; rfl
  have g3 : w1.cell? ⟨w.heap.size + 1, 3, none⟩ = some (.int .i64 j3) := by rw [cell_of_row w1 _ 3 _ _ _ m2]; rfl
  have g4 : w1.cell? ⟨w.heap.size + 1, 4, none⟩ = some (.string t4) := by rw [cell_of_row w1 _ 4 _ _ _ m2]; rfl
  have g5 : w1.cell? ⟨w.heap.size + 1, 5, none⟩ = some (.slice b5 m5 d5) := by rw [cell_of_row w1 _ 5 _ _ _ m2]; rfl
  have g6 : w1.cell? ⟨w.heap.size + 1, 6, none⟩ = some (.slice b6 m6 d6) := by rw [cell_of_row w1 _ 6 _ _ _ m2]; rfl
  have hD := H2.out w1 hb2
  clear m1 m2 n1 n2 hb1 H2 HN
  go_wp2_with fail
  refine hD.mono ?_
  clear hD
  rintro e w2 ⟨rfl, hb3⟩
  have hb4 : Below w.heap.size w w2 := hb2.trans (hb3.mono hb2.size)
  clear hb3 hb2 hA
  go_wp2
  go_ret
  exact ⟨rfl, hb4⟩

set_option maxHeartbeats 1000000 in
theorem eqModule_any (d : Nat) (v1 v2 : Value) (m : List (Fu d)) (w : World) (h1 : RowOf 7 (FuR d) w v1 m) (h2 : RowOf 7 (FuR d) w v2 m) (hw : WfRow (WfF d) m) :
    Calls Try.prog 32 #[.agg #[v1], .agg #[v2]] w fun e w' => e = .returned (.bool true) ∧ Below w.heap.size w w' := by
  obtain ⟨a1, c1, e1⟩ := h1.slice
  obtain ⟨a2, c2, e2⟩ := h2.slice
  obtain ⟨len, hl⟩ : ∃ l, m.length = l := ⟨_, rfl⟩
  rw [hl] at e1 e2
  subst e1 e2
  obtain ⟨W, hW⟩ : ∃ W, W = (w.alloc (Obj.cells #[.slice a1 len c1] 54)).alloc (Obj.cells #[.slice a2 len c2] 54) := ⟨_, rfl⟩
  have hA : Below w.heap.size w W := by rw [hW]; exact ((Below.refl _ _).alloc (Nat.le_refl _) _).alloc (by simp) _
  have hC := eqFunS_of _ _ (FuR.lasts d) (FuR.shape d) (eqFun_any d) _ _ m W (h1.later (FuR.lasts d) hA) (h2.later (FuR.lasts d) hA) hw
  rw [hW] at hC
  have HW : Hid (W = _) := hW
  clear hW h1 h2 hw hl
  go_enter Try.func32, Try.ntmps32
  go_wp2_with fail
  refine hC.mono ?_
  clear hC
  rintro e w1 ⟨rfl, hb1⟩
  rw [← HW.out] at hb1
  have hb2 : Below w.heap.size w w1 := hA.trans (hb1.mono hA.size)
  clear hb1 hA HW
  go_wp2
  go_ret
  exact ⟨rfl, hb2⟩

/-! A module that came in. -/

section
open Go.ChangeShapes Go.WideShapes Go.Joins Go.Deep
variable {H : Type} {enc : TypeId × Value → H} {W : World} {base : Nat} {spare : Nat → Bool} {held : Bool}

theorem Try.cellsFun : Try.prog.cellsOf 142 = 7 := by kernel_rfl
theorem Try.cellsFuns : Try.prog.cellsOf 47 = 1 := by kernel_rfl
theorem Try.cellsStrs : Try.prog.cellsOf 29 = 1 := by kernel_rfl
theorem Try.cellsModule : Try.prog.cellsOf 49 = 1 := by kernel_rfl

set_option maxRecDepth 100000 in
theorem read_funC (m d : Nat) (hd : m ≤ d) (cs : List Value) (x : DataW H × List MemPlace) (h : DataW.trod enc Try.prog W base spare held m 142 cs = some x) (hl7 : cs.length = 7) : ∃ f : Fu d, FuR d W cs f ∧ WfF d f := by
  obtain ⟨c0, c1, cx, rfl, hcx⟩ : ∃ c0 c1 cx, cs = c0 :: c1 :: cx ∧ cx.length = 5 := by
    match cs, hl7 with
    | c0 :: c1 :: cx, h => exact ⟨c0, c1, cx, rfl, by simpa using h⟩
  obtain ⟨xs, m, rfl, _, _, hl, hf⟩ := DataW.trod_struct Try.underlying142 h
  have hl3 : xs.length = 3 := hl
  have h0 : DataW.trod enc Try.prog W base spare held m 9 [c0] = xs[0]? := by have := hf 0 _ rfl; simpa [Try.cells9] using this
  have h1 : DataW.trod enc Try.prog W base spare held m 29 [c1] = xs[1]? := by have := hf 1 _ rfl; simpa [Try.cellsStrs, Try.cells9] using this
  have h2 : DataW.trod enc Try.prog W base spare held m 38 cx = xs[2]? := by have := hf 2 _ rfl; simpa [Try.cellsStrs, Try.cells9, Try.cellsExpr, List.take_of_length_le (Nat.le_of_eq hcx)] using this
  rw [List.getElem?_eq_getElem (by omega)] at h0 h1 h2
  obtain ⟨s, e0, _, hs⟩ := DataW.trod_string Try.underlying9 h0
  simp only [List.cons.injEq, and_true] at e0
  subst e0
  obtain ⟨ps, hP, wP⟩ := read_row (R := StR) (P := StP) Try.underlying29 Try.cells9 (by omega) (fun n hn cs x hx hl => by
    obtain ⟨c, rfl⟩ : ∃ c, cs = [c] := by
      match cs, hl with
      | [c], _ => exact ⟨c, rfl⟩
    obtain ⟨t, e, _, ht⟩ := DataW.trod_string Try.underlying9 hx
    simp only [List.cons.injEq, and_true] at e
    subst e
    exact ⟨t, rfl, ht⟩) h1
  obtain ⟨e, hE, wE⟩ := read_exprC m d (by omega) cx _ h2 hcx
  exact ⟨(s, ps, e), ⟨c1, cx, rfl, hP, hE⟩, hs, wP, wE⟩

set_option maxRecDepth 100000 in
/-- A module that came in by value. -/
theorem read_module {r : Reach} {b0 : Nat} {v : Value} {x : DataW H} {p : List MemPlace} (hv : Value.okWide Try.prog W r b0 49 v) (h : DataW.Trod enc Try.prog W base spare held 49 v x p) :
    ∃ M, ∀ d, M ≤ d → ∃ (u : Value) (m : List (Fu d)), v = .agg #[u] ∧ RowOf 7 (FuR d) W u m ∧ WfRow (WfF d) m := by
  obtain ⟨cs, rfl, hsz⟩ := okWide_struct Try.underlying49 hv
  obtain ⟨fuel, hf⟩ := h
  have hf' : DataW.trod enc Try.prog W base spare held fuel 49 cs.toList = some (x, p) := hf
  have hl1 : cs.toList.length = 1 := by have := hsz.trans Try.cellsModule; simpa using this
  obtain ⟨u, hu⟩ : ∃ u, cs.toList = [u] := by
    match cs.toList, hl1 with
    | [c], _ => exact ⟨c, rfl⟩
  have hcs : cs = #[u] := by apply Array.toList_inj.mp; rw [hu]
  rw [hu] at hf'
  refine ⟨fuel, fun d hd => ?_⟩
  obtain ⟨xs, m, rfl, _, _, hl, hff⟩ := DataW.trod_struct Try.underlying49 hf'
  have hl1' : xs.length = 1 := hl
  have h0 : DataW.trod enc Try.prog W base spare held m 47 [u] = xs[0]? := by have := hff 0 _ rfl; simpa [Try.cellsFuns] using this
  rw [List.getElem?_eq_getElem (by omega)] at h0
  obtain ⟨fs, hF, wF⟩ := read_row (R := FuR d) (P := WfF d) Try.underlying47 Try.cellsFun (by omega) (fun n hn cs x hx hl => read_funC n d (by omega) cs x hx hl) h0
  exact ⟨u, fs, by rw [hcs], hF, wF⟩
end

end Go.Proofs.Ytpokheklplcamaa
