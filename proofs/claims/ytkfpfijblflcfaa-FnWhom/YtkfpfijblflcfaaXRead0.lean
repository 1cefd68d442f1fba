/- How lists of structs that came in are read. -/
import Derived.Test.YtkfpfijblflcfaaRow
import Derived.Test.YtkfpfijblflcfaaTRead
namespace Go.Proofs.Ytkfpfijblflcfaa
open Go.RowKit Go.ChangeShapes Go.WideShapes Go.Joins Go.Deep
set_option linter.unusedVariables false

theorem cells_at {w : World} {base n : Nat} {a : Addr} {cs : List Value} (h : w.cells? base a n = some cs) : cs.length = n ∧ ∀ (j : Nat) (u : Value), cs[j]? = some u → w.cell? (a.add j) = some u := by
  unfold World.cells? at h
  split at h
  · have hl := mapM_some_length h
    rw [List.length_range] at hl
    refine ⟨hl, fun j u hu => ?_⟩
    have hj : j < n := by have := (List.getElem?_eq_some_iff.1 hu).1; omega
    have := mapM_some_get h j j (by simp [hj])
    rw [this, hu]
  · cases h

section
variable {H : Type} {enc : TypeId × Value → H} {W : World} {base : Nat} {spare : Nat → Bool} {held : Bool}

set_option maxRecDepth 100000 in
theorem read_row {α : Type} {k : Nat} {TS TE : TypeId} {R : World → List Value → α → Prop} {P : α → Prop} (hu : Try.prog.underlying TS = some (.slice TE)) (hk : Try.prog.cellsOf TE = k) (hk0 : 0 < k) {m : Nat}
    (ih : ∀ n, n < m → ∀ cs x, DataW.trod enc Try.prog W base spare held n TE cs = some x → cs.length = k → ∃ e : α, R W cs e ∧ P e) {v : Value} {x : DataW H × List MemPlace} (h : DataW.trod enc Try.prog W base spare held m TS [v] = some x) : ∃ es : List α, RowOf k R W v es ∧ WfRow P es := by
  rcases DataW.trod_slice hu h with ⟨hv, _⟩ | ⟨a, len, cap, elems, rest, n, rfl, hv, _, _, hlc, hcm, hel, hx, _, _⟩
  · simp only [List.cons.injEq, and_true] at hv
    subst hv
    exact ⟨[], ⟨_, _, rfl, fun i t ht => by simp at ht⟩, by simp, fun t ht => by cases ht⟩
  · simp only [List.cons.injEq, and_true] at hv
    subst hv
    have one : ∀ i, i < len → ∃ e : α, ∃ b o vs, a = ⟨b, o, none⟩ ∧ vs.length = k ∧ (∀ (j : Nat) (u : Value), vs[j]? = some u → W.cell? ⟨b, o + i * k + j, none⟩ = some u) ∧ R W vs e ∧ P e := by
      intro i hi
      have h1 := hx i hi
      rw [List.getElem?_eq_getElem (by omega), hk] at h1
      obtain ⟨cs, hc, h2⟩ := Option.bind_eq_some_iff.1 h1
      obtain ⟨hl, hce⟩ := cells_at hc
      obtain ⟨e, hr, hp⟩ := ih n (by omega) cs _ h2 hl
      have hspot : a.spot = none := by
        have h3 := hx 0 (by omega)
        rw [List.getElem?_eq_getElem (by omega), hk] at h3
        obtain ⟨cs', hc', _⟩ := Option.bind_eq_some_iff.1 h3
        obtain ⟨hl', hce'⟩ := cells_at hc'
        have := World.cell?_spot (hce' 0 cs'[0] (List.getElem?_eq_getElem (by omega)))
        simpa [Addr.add] using this
      obtain ⟨b, o, sp⟩ := a
      simp only at hspot
      subst hspot
      refine ⟨e, b, o, cs, rfl, hl, fun j u hu => ?_, hr, hp⟩
      have := hce j u hu
      rw [Deep.add_add] at this
      simpa only [Addr.add_lit, ← Nat.add_assoc] using this
    by_cases h0 : len = 0
    · subst h0
      exact ⟨[], ⟨some a, cap, rfl, fun i t ht => by simp at ht⟩, by simp, fun t ht => by cases ht⟩
    · obtain ⟨e0, _⟩ := one 0 (by omega)
      haveI : Inhabited α := ⟨e0⟩
      obtain ⟨f, hf⟩ := choose_lt one
      refine ⟨(List.range len).map f, ⟨some a, cap, by simp, fun i t ht => ?_⟩, by simp; unfold maxLen at hcm; omega, fun t ht => ?_⟩
      · have hi : i < len := by have := (List.getElem?_eq_some_iff.1 ht).1; simpa using this
        obtain ⟨b, o, vs, e, h4, h5, h6, _⟩ := hf i hi
        have et : f i = t := by simpa [hi] using ht
        rw [et] at h6
        exact ⟨b, o, vs, by rw [e], h4, h5, h6⟩
      · obtain ⟨i, hi, rfl⟩ := List.mem_map.1 ht
        obtain ⟨b, o, vs, _, _, _, _, h1⟩ := hf i (List.mem_range.1 hi)
        exact h1

end
end Go.Proofs.Ytkfpfijblflcfaa
