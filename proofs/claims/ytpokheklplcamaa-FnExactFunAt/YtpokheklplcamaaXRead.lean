/- How lists of structs, and expressions, that came in are read: to whatever depth. -/
import Derived.Test.YtpokheklplcamaaXm
import Derived.Test.YtpokheklplcamaaTRead
namespace Go.Proofs.Ytpokheklplcamaa
open Go.RowKit Go.ChangeShapes Go.WideShapes Go.Joins Go.Deep
set_option linter.unusedVariables false

theorem cells_at {w : World} {base n : Nat} {a : Addr} {cs : List Value} (h : w.cells? base a n = some cs) : cs.length = n ∧ ∀ (j : Nat) (u : Value), cs[j]? = some u → w.cell? (a.add j) = some u := by
  unfold World.cells? at h
  split at h
  · have hl := mapM_some_length h
    rw [List.length_range] at hl
    refine ⟨hl, fun j u hu => ?_⟩
    have hj : j < n := by have := (List.getElem?_eq_some_iff.1 hu).1; omega
    have := mapM_some_get h j j (by simp [hj])
    rw [this, hu]
  · cases h

section
variable {H : Type} {enc : TypeId × Value → H} {W : World} {base : Nat} {spare : Nat → Bool} {held : Bool}

set_option maxRecDepth 100000 in
theorem read_row {α : Type} {k : Nat} {TS TE : TypeId} {R : World → List Value → α → Prop} {P : α → Prop} (hu : Try.prog.underlying TS = some (.slice TE)) (hk : Try.prog.cellsOf TE = k) (hk0 : 0 < k) {m : Nat}
    (ih : ∀ n, n < m → ∀ cs x, DataW.trod enc Try.prog W base spare held n TE cs = some x → cs.length = k → ∃ e : α, R W cs e ∧ P e) {v : Value} {x : DataW H × List MemPlace} (h : DataW.trod enc Try.prog W base spare held m TS [v] = some x) : ∃ es : List α, RowOf k R W v es ∧ WfRow P es := by
  rcases DataW.trod_slice hu h with ⟨hv, _⟩ | ⟨a, len, cap, elems, rest, n, rfl, hv, _, _, hlc, hcm, hel, hx, _, _⟩
  · simp only [List.cons.injEq, and_true] at hv
    subst hv
    exact ⟨[], ⟨_, _, rfl, fun i t ht => by simp at ht⟩, by simp, fun t ht => by cases ht⟩
  · simp only [List.cons.injEq, and_true] at hv
    subst hv
    have one : ∀ i, i < len → ∃ e : α, ∃ b o vs, a = ⟨b, o, none⟩ ∧ vs.length = k ∧ (∀ (j : Nat) (u : Value), vs[j]? = some u → W.cell? ⟨b, o + i * k + j, none⟩ = some u) ∧ R W vs e ∧ P e := by
      intro i hi
      have h1 := hx i hi
      rw [List.getElem?_eq_getElem (by omega), hk] at h1
      obtain ⟨cs, hc, h2⟩ := Option.bind_eq_some_iff.1 h1
      obtain ⟨hl, hce⟩ := cells_at hc
      obtain ⟨e, hr, hp⟩ := ih n (by omega) cs _ h2 hl
      have hspot : a.spot = none := by
        have h3 := hx 0 (by omega)
        rw [List.getElem?_eq_getElem (by omega), hk] at h3
        obtain ⟨cs', hc', _⟩ := Option.bind_eq_some_iff.1 h3
        obtain ⟨hl', hce'⟩ := cells_at hc'
        have := World.cell?_spot (hce' 0 cs'[0] (List.getElem?_eq_getElem (by omega)))
        simpa [Addr.add] using this
      obtain ⟨b, o, sp⟩ := a
      simp only at hspot
      subst hspot
      refine ⟨e, b, o, cs, rfl, hl, fun j u hu => ?_, hr, hp⟩
      have := hce j u hu
      rw [Deep.add_add] at this
      simpa only [Addr.add_lit, ← Nat.add_assoc] using this
    by_cases h0 : len = 0
    · subst h0
      exact ⟨[], ⟨some a, cap, rfl, fun i t ht => by simp at ht⟩, by simp, fun t ht => by cases ht⟩
    · obtain ⟨e0, _⟩ := one 0 (by omega)
      haveI : Inhabited α := ⟨e0⟩
      obtain ⟨f, hf⟩ := choose_lt one
      refine ⟨(List.range len).map f, ⟨some a, cap, by simp, fun i t ht => ?_⟩, by simp; unfold maxLen at hcm; omega, fun t ht => ?_⟩
      · have hi : i < len := by have := (List.getElem?_eq_some_iff.1 ht).1; simpa using this
        obtain ⟨b, o, vs, e, h4, h5, h6, _⟩ := hf i hi
        have et : f i = t := by simpa [hi] using ht
        rw [et] at h6
        exact ⟨b, o, vs, by rw [e], h4, h5, h6⟩
      · obtain ⟨i, hi, rfl⟩ := List.mem_map.1 ht
        obtain ⟨b, o, vs, _, _, _, _, h1⟩ := hf i (List.mem_range.1 hi)
        exact h1

theorem Try.cellsExpr : Try.prog.cellsOf 38 = 5 := by kernel_rfl
theorem Try.cellsClause : Try.prog.cellsOf 134 = 10 := by kernel_rfl
theorem Try.cellsExprs : Try.prog.cellsOf 35 = 1 := by kernel_rfl
theorem Try.cellsClauses : Try.prog.cellsOf 36 = 1 := by kernel_rfl

set_option maxRecDepth 100000 in
theorem read_exprC : ∀ (m d : Nat), m ≤ d → ∀ (cs : List Value) (x : DataW H × List MemPlace), DataW.trod enc Try.prog W base spare held m 38 cs = some x → cs.length = 5 → ∃ e : Ex d, ExR d W cs e ∧ WfX d e := by
  intro m
  induction m using Nat.strongRecOn with
  | ind m ih =>
    intro d hd cs x h hl5
    obtain ⟨c0, c1, c2, c3, c4, rfl⟩ : ∃ c0 c1 c2 c3 c4, cs = [c0, c1, c2, c3, c4] := by
      match cs, hl5 with
      | [c0, c1, c2, c3, c4], _ => exact ⟨c0, c1, c2, c3, c4, rfl⟩
    obtain ⟨xs, m, rfl, _, _, hl, hf⟩ := DataW.trod_struct Try.underlying38 h
    have hl4 : xs.length = 5 := hl
    have h0 : DataW.trod enc Try.prog W base spare held m 3 [c0] = xs[0]? := by have := hf 0 _ rfl; simpa [Try.cells3] using this
    have h1 : DataW.trod enc Try.prog W base spare held m 3 [c1] = xs[1]? := by have := hf 1 _ rfl; simpa [Try.cells3] using this
    have h2 : DataW.trod enc Try.prog W base spare held m 9 [c2] = xs[2]? := by have := hf 2 _ rfl; simpa [Try.cells9] using this
    have h3 : DataW.trod enc Try.prog W base spare held m 35 [c3] = xs[3]? := by have := hf 3 _ rfl; simpa [Try.cellsExprs] using this
    have h4 : DataW.trod enc Try.prog W base spare held m 36 [c4] = xs[4]? := by have := hf 4 _ rfl; simpa [Try.cellsClauses] using this
    rw [List.getElem?_eq_getElem (by omega)] at h0 h1 h2 h3 h4
    obtain ⟨k, e0, _, wk⟩ := DataW.trod_int Try.underlying3 h0
    obtain ⟨l, e1, _, wl⟩ := DataW.trod_int Try.underlying3 h1
    obtain ⟨s, e2, _, hs⟩ := DataW.trod_string Try.underlying9 h2
    simp only [List.cons.injEq, and_true] at e0 e1 e2
    subst e0 e1 e2
    obtain ⟨d, rfl⟩ : ∃ d', d = d' + 1 := ⟨d - 1, by omega⟩
    obtain ⟨es, hE, wE⟩ := read_row (R := ExR d) (P := WfX d) Try.underlying35 Try.cellsExpr (by omega) (fun n hn cs x hx hl => ih n (by omega) d (by omega) cs x hx hl) h3
    obtain ⟨cl, hC, wC⟩ := read_row (R := ClR (ExR d)) (P := ClP (WfX d)) Try.underlying36 Try.cellsClause (by omega) (fun n hn cs x hx hl => by
      obtain ⟨ys, m', rfl, _, _, hyl, hyf⟩ := DataW.trod_struct Try.underlying134 hx
      have hy2 : ys.length = 2 := hyl
      have p0 : DataW.trod enc Try.prog W base spare held m' 38 (cs.take 5) = ys[0]? := by have := hyf 0 _ rfl; simpa [Try.cellsExpr] using this
      have p1 : DataW.trod enc Try.prog W base spare held m' 38 ((cs.drop 5).take 5) = ys[1]? := by have := hyf 1 _ rfl; simpa [Try.cellsExpr] using this
      rw [List.getElem?_eq_getElem (by omega)] at p0 p1
      obtain ⟨q1, r1, s1⟩ := ih m' (by omega) d (by omega) _ _ p0 (by simp; omega)
      obtain ⟨q2, r2, s2⟩ := ih m' (by omega) d (by omega) _ _ p1 (by simp; omega)
      refine ⟨(q1, q2), ⟨_, _, ?_, r1, r2⟩, s1, s2⟩
      rw [List.take_of_length_le (l := cs.drop 5) (by simp; omega)]
      exact (List.take_append_drop 5 cs).symm) h4
    exact ⟨(k, l, s, es, cl), ⟨c3, c4, rfl, hE, hC⟩, bounds_i64 wk, bounds_i64 wl, hs, wE, wC⟩

set_option maxRecDepth 100000 in
/-- An expression that came in by value. -/
theorem read_expr {r : Reach} {b0 : Nat} {v : Value} {x : DataW H} {p : List MemPlace} (hv : Value.okWide Try.prog W r b0 38 v) (h : DataW.Trod enc Try.prog W base spare held 38 v x p) :
    ∃ M, ∀ d, M ≤ d → ∃ (vs : List Value) (e : Ex d), v = .agg vs.toArray ∧ ExR d W vs e ∧ WfX d e := by
  obtain ⟨cs, rfl, hsz⟩ := okWide_struct Try.underlying38 hv
  obtain ⟨fuel, hf⟩ := h
  have hf' : DataW.trod enc Try.prog W base spare held fuel 38 cs.toList = some (x, p) := hf
  refine ⟨fuel, fun d hd => ?_⟩
  obtain ⟨e, h1, h2⟩ := read_exprC fuel d hd cs.toList _ hf' (by have := hsz.trans Try.cellsExpr; simpa using this)
  exact ⟨cs.toList, e, by simp, h1, h2⟩
end
end Go.Proofs.Ytpokheklplcamaa
