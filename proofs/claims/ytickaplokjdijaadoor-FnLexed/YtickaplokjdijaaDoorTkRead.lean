/- How a token that came in is read, and the law's own work on tokens. -/
import Derived.Test.YtickaplokjdijaaDoorTRead
namespace Go.Proofs.YtickaplokjdijaaDoor
open Go.RowKit Go.ChangeShapes Go.WideShapes Go.Joins Go.Deep
set_option linter.unusedVariables false

theorem Tryd.cellsToken : Tryd.prog.cellsOf 46 = 3 := by kernel_rfl

theorem arr3 {cs : Array Value} (h : cs.size = 3) : ∃ c0 c1 c2, cs = #[c0, c1, c2] := by
  obtain ⟨l⟩ := cs
  match l, h with
  | [c0, c1, c2], _ => exact ⟨c0, c1, c2, rfl⟩

section
variable {H : Type} {enc : TypeId × Value → H} {W : World} {base : Nat} {spare : Nat → Bool} {held : Bool}

/-- A token's three fields, out of the reading of its three cells. -/
theorem read_three {n : Nat} {c0 c1 c2 : Value} {x : DataW H × List MemPlace} (h : DataW.trod enc Tryd.prog W base spare held n 46 [c0, c1, c2] = some x) :
    ∃ (k l : Int) (s : ByteArray), c0 = .int .i64 k ∧ c1 = .int .i64 l ∧ c2 = .string s ∧ I64 k ∧ I64 l ∧ s.size ≤ maxLen := by
  obtain ⟨xs, m, rfl, _, _, hl, hf⟩ := DataW.trod_struct Tryd.underlying46 h
  have hl4 : xs.length = 3 := hl
  have h0 : DataW.trod enc Tryd.prog W base spare held m 3 [c0] = xs[0]? := by have := hf 0 _ rfl; simpa [Tryd.cells3] using this
  have h1 : DataW.trod enc Tryd.prog W base spare held m 3 [c1] = xs[1]? := by have := hf 1 _ rfl; simpa [Tryd.cells3] using this
  have h2 : DataW.trod enc Tryd.prog W base spare held m 9 [c2] = xs[2]? := by have := hf 2 _ rfl; simpa [Tryd.cells9] using this
  rw [List.getElem?_eq_getElem (by omega)] at h0 h1 h2
  obtain ⟨k, e0, _, wk⟩ := DataW.trod_int Tryd.underlying3 h0
  obtain ⟨l, e1, _, wl⟩ := DataW.trod_int Tryd.underlying3 h1
  obtain ⟨s, e2, _, hs⟩ := DataW.trod_string Tryd.underlying9 h2
  simp only [List.cons.injEq, and_true] at e0 e1 e2
  exact ⟨k, l, s, e0, e1, e2, bounds_i64 wk, bounds_i64 wl, hs⟩

set_option maxRecDepth 100000 in
/-- A token that came in by value. -/
theorem read_token {r : Reach} {b0 : Nat} {v : Value} {x : DataW H} {p : List MemPlace} (hv : Value.okWide Tryd.prog W r b0 46 v) (h : DataW.Trod enc Tryd.prog W base spare held 46 v x p) :
    ∃ (k n : Int) (s : ByteArray), v = .agg #[.int .i64 k, .int .i64 n, .string s] ∧ I64 k ∧ I64 n ∧ s.size ≤ maxLen := by
  obtain ⟨cs, rfl, hsz⟩ := okWide_struct Tryd.underlying46 hv
  obtain ⟨c0, c1, c2, rfl⟩ := arr3 (hsz.trans Tryd.cellsToken)
  obtain ⟨fuel, hf⟩ := h
  have hf' : DataW.trod enc Tryd.prog W base spare held fuel 46 [c0, c1, c2] = some (x, p) := hf
  obtain ⟨k, l, s, rfl, rfl, rfl, wk, wl, ws⟩ := read_three hf'
  exact ⟨k, l, s, rfl, wk, wl, ws⟩
end

set_option maxHeartbeats 400000 in
theorem szToken_any (k n : Int) (s : ByteArray) (left : Int) (w : World) (hs : s.size ≤ maxLen) (h0 : 0 ≤ left) (h1 : left ≤ 1048576) :
    Calls Tryd.prog 22 #[.agg #[.int .i64 k, .int .i64 n, .string s], .int .i64 left] w fun e w' => e = .returned (.int .i64 (lft left s.size)) ∧ Below w.heap.size w w' := by
  have HA : Below w.heap.size w (w.alloc (.cells #[.int .i64 k, .int .i64 n, .string s] 46)) := (Below.refl _ _).alloc (Nat.le_refl _) _
  have hs2 : s.size ≤ 9223372036854775807 := Nat.le_trans hs (by decide)
  unfold lft
  by_cases h : (s.size : Int) ≤ left
  · rw [if_pos h]
    have hb : decide (left - (s.size : Int) < 0) = false := by simp; omega
    go_enter Tryd.func22, Tryd.ntmps22
    go_wp2
    go_ret
    exact ⟨rfl, HA⟩
  · rw [if_neg h]
    have hb : decide (left - (s.size : Int) < 0) = true := by simp; omega
    go_enter Tryd.func22, Tryd.ntmps22
    go_wp2
    go_ret
    exact ⟨rfl, HA⟩

set_option maxHeartbeats 400000 in
theorem toToken_any (k n : Int) (s : ByteArray) (w : World) :
    Calls Tryd.prog 24 #[.agg #[.int .i64 k, .int .i64 n, .string s]] w fun e w' => e = .returned (.agg #[.int .i64 k, .int .i64 n, .string s]) ∧ Below w.heap.size w w' := by
  go_enter Tryd.func24, Tryd.ntmps24
  go_wp2
  refine bodyPost_ret (v := .agg #[.int .i64 k, .int .i64 n, .string s]) (by first | (simp [results, Tryd.results24, go_sem]; done) | (simp [results, Tryd.results24, go_sem]; rfl)) rfl ⟨rfl, ?_⟩
  exact (((Below.refl _ _).alloc (Nat.le_refl _) _).alloc (by simp) _).alloc (by simp; omega) _

end Go.Proofs.YtickaplokjdijaaDoor
