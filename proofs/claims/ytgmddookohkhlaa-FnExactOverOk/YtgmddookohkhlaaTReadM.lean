/- How a list of terms that came in is read: to whatever depth. -/
import Derived.Test.YtgmddookohkhlaaTmM
import Derived.ProofKit
import Derived.OpenShut
import Derived.Deep.Slices
import Derived.Lib.SmallJoins
namespace Go.Proofs.Ytgmddookohkhlaa
open Go.RowKit Go.ChangeShapes Go.WideShapes Go.Joins Go.Deep

theorem cells4 {w : World} {base : Nat} {a : Addr} {cs : List Value} (h : w.cells? base a 4 = some cs) :
    ∃ c0 c1 c2 c3, cs = [c0, c1, c2, c3] ∧ w.cell? (a.add 0) = some c0 ∧ w.cell? (a.add 1) = some c1 ∧ w.cell? (a.add 2) = some c2 ∧ w.cell? (a.add 3) = some c3 := by
  unfold World.cells? at h
  split at h
  · simp only [show List.range 4 = [0, 1, 2, 3] from rfl, List.mapM_cons, List.mapM_nil, Option.bind_eq_bind, Option.pure_def] at h
    obtain ⟨c0, h0, h⟩ := Option.bind_eq_some_iff.1 h
    obtain ⟨r1, h, e0⟩ := Option.bind_eq_some_iff.1 h
    obtain ⟨c1, h1, h⟩ := Option.bind_eq_some_iff.1 h
    obtain ⟨r2, h, e1⟩ := Option.bind_eq_some_iff.1 h
    obtain ⟨c2, h2, h⟩ := Option.bind_eq_some_iff.1 h
    obtain ⟨r3, h, e2⟩ := Option.bind_eq_some_iff.1 h
    obtain ⟨c3, h3, h⟩ := Option.bind_eq_some_iff.1 h
    obtain ⟨r4, h, e3⟩ := Option.bind_eq_some_iff.1 h
    cases h
    cases e3
    cases e2
    cases e1
    cases e0
    exact ⟨c0, c1, c2, c3, rfl, h0, h1, h2, h3⟩
  · cases h

theorem Try.cellsTerm : Try.prog.cellsOf 77 = 4 := by kernel_rfl
theorem Try.cells3 : Try.prog.cellsOf 3 = 1 := by kernel_rfl
theorem Try.cells9 : Try.prog.cellsOf 9 = 1 := by kernel_rfl
theorem Try.cellsTerms : Try.prog.cellsOf 75 = 1 := by kernel_rfl

section
variable {H : Type} {enc : TypeId × Value → H} {W : World} {base : Nat} {spare : Nat → Bool} {held : Bool}

/-- A term's four fields, out of the reading of its four cells. -/
theorem read_four {n : Nat} {c0 c1 c2 c3 : Value} {x : DataW H × List MemPlace} (h : DataW.trod enc Try.prog W base spare held n 77 [c0, c1, c2, c3] = some x) :
    ∃ (m : Nat) (k l : Int) (s : ByteArray) (y : DataW H × List MemPlace), n = m + 1 ∧ c0 = .int .i64 k ∧ c1 = .int .i64 l ∧ c2 = .string s ∧ I64 k ∧ I64 l ∧ s.size ≤ maxLen ∧ DataW.trod enc Try.prog W base spare held m 75 [c3] = some y := by
  obtain ⟨xs, m, rfl, _, _, hl, hf⟩ := DataW.trod_struct Try.underlying77 h
  have hl4 : xs.length = 4 := hl
  have h0 : DataW.trod enc Try.prog W base spare held m 3 [c0] = xs[0]? := by have := hf 0 _ rfl; simpa [Try.cells3] using this
  have h1 : DataW.trod enc Try.prog W base spare held m 3 [c1] = xs[1]? := by have := hf 1 _ rfl; simpa [Try.cells3] using this
  have h2 : DataW.trod enc Try.prog W base spare held m 9 [c2] = xs[2]? := by have := hf 2 _ rfl; simpa [Try.cells9] using this
  have h3 : DataW.trod enc Try.prog W base spare held m 75 [c3] = xs[3]? := by have := hf 3 _ rfl; simpa [Try.cellsTerms] using this
  rw [List.getElem?_eq_getElem (by omega)] at h0 h1 h2 h3
  obtain ⟨k, e0, _, wk⟩ := DataW.trod_int Try.underlying3 h0
  obtain ⟨l, e1, _, wl⟩ := DataW.trod_int Try.underlying3 h1
  obtain ⟨s, e2, _, hs⟩ := DataW.trod_string Try.underlying9 h2
  simp only [List.cons.injEq, and_true] at e0 e1 e2
  exact ⟨m, k, l, s, _, rfl, e0, e1, e2, bounds_i64 wk, bounds_i64 wl, hs, h3⟩

set_option maxRecDepth 100000 in
theorem read_terms : ∀ (m d : Nat), m ≤ d → ∀ (v : Value) (x : DataW H × List MemPlace), DataW.trod enc Try.prog W base spare held m 75 [v] = some x → ∃ ts : List (Tm d), RdL d W v ts ∧ WfL d ts := by
  intro m
  induction m using Nat.strongRecOn with
  | ind m ih =>
    intro d hd v x h
    rcases DataW.trod_slice Try.underlying75 h with ⟨hv, _⟩ | ⟨a, len, cap, elems, rest, n, rfl, hv, _, _, hlc, hcm, hel, hx, _, _⟩
    · simp only [List.cons.injEq, and_true] at hv
      subst hv
      cases d with
      | zero => exact ⟨[], ⟨_, _, rfl⟩, trivial⟩
      | succ d => exact ⟨[], ⟨_, _, rfl, fun i t ht => by simp at ht⟩, by simp, fun t ht => by cases ht⟩
    · simp only [List.cons.injEq, and_true] at hv
      subst hv
      obtain ⟨d, rfl⟩ : ∃ d', d = d' + 1 := ⟨d - 1, by omega⟩
      have one : ∀ i, i < len → ∃ t : Tm (d + 1), ∃ b o lv, a = ⟨b, o, none⟩ ∧ Four W b (o + i * 4) t.K t.N t.S lv ∧ RdL d W lv t.L ∧ I64 t.K ∧ I64 t.N ∧ t.S.size ≤ maxLen ∧ WfL d t.L := by
        intro i hi
        have h1 := hx i hi
        rw [List.getElem?_eq_getElem (by omega), Try.cellsTerm] at h1
        obtain ⟨cs, hc, h2⟩ := Option.bind_eq_some_iff.1 h1
        obtain ⟨c0, c1, c2, c3, rfl, k0, k1, k2, k3⟩ := cells4 hc
        obtain ⟨m', k, l, s, y, rfl, rfl, rfl, rfl, wk, wl, ws, hy⟩ := read_four h2
        obtain ⟨ts, hr, hw⟩ := ih m' (by omega) d (by omega) c3 y hy
        rw [Deep.add_add] at k0 k1 k2 k3
        have hspot : a.spot = none := by
          have h3 := hx 0 (by omega)
          rw [List.getElem?_eq_getElem (by omega), Try.cellsTerm] at h3
          obtain ⟨cs', hc', _⟩ := Option.bind_eq_some_iff.1 h3
          obtain ⟨_, _, _, _, _, z0, _⟩ := cells4 hc'
          have := World.cell?_spot z0
          simpa [Addr.add] using this
        obtain ⟨b, o, sp⟩ := a
        simp only at hspot
        subst hspot
        simp only [Addr.add_lit, Nat.add_zero, ← Nat.add_assoc] at k0 k1 k2 k3
        exact ⟨(k, l, s, ts), b, o, c3, rfl, ⟨k0, k1, k2, k3⟩, hr, wk, wl, ws, hw⟩
      haveI : Inhabited (Tm (d + 1)) := ⟨((0, 0, ByteArray.empty, []) : Int × Int × ByteArray × List (Tm d))⟩
      obtain ⟨f, hf⟩ := choose_lt one
      refine ⟨(List.range len).map f, ⟨some a, cap, by simp, fun i t ht => ?_⟩, by simp; unfold maxLen at hcm; omega, fun t ht => ?_⟩
      · have hi : i < len := by have := (List.getElem?_eq_some_iff.1 ht).1; simpa using this
        obtain ⟨b, o, lv, e, h4, h5, _⟩ := hf i hi
        have et : f i = t := by simpa [hi] using ht
        rw [et] at h4 h5
        exact ⟨b, o, lv, by rw [e], h4, h5⟩
      · obtain ⟨i, hi, rfl⟩ := List.mem_map.1 ht
        obtain ⟨b, o, lv, _, _, _, h1, h2, h3, h4⟩ := hf i (List.mem_range.1 hi)
        exact ⟨h1, h2, h3, h4⟩

set_option maxRecDepth 100000 in
/-- A term that came in by value. -/
theorem read_term {r : Reach} {b0 : Nat} {v : Value} {x : DataW H} {p : List MemPlace} (hv : Value.okWide Try.prog W r b0 77 v) (h : DataW.Trod enc Try.prog W base spare held 77 v x p) :
    ∃ M, ∀ d, M ≤ d → ∃ (k n : Int) (s : ByteArray) (lv : Value) (ts : List (Tm d)), v = .agg #[.int .i64 k, .int .i64 n, .string s, lv] ∧ I64 k ∧ I64 n ∧ s.size ≤ maxLen ∧ RdL d W lv ts ∧ WfL d ts := by
  obtain ⟨cs, rfl, hsz⟩ := okWide_struct Try.underlying77 hv
  obtain ⟨c0, c1, c2, c3, rfl⟩ := array4 (hsz.trans Try.cellsTerm)
  obtain ⟨fuel, hf⟩ := h
  have hf' : DataW.trod enc Try.prog W base spare held fuel 77 [c0, c1, c2, c3] = some (x, p) := hf
  obtain ⟨m, k, l, s, y, rfl, rfl, rfl, rfl, wk, wl, ws, hy⟩ := read_four hf'
  refine ⟨m, fun d hd => ?_⟩
  obtain ⟨ts, hr, hw⟩ := read_terms m d hd c3 y hy
  exact ⟨k, l, s, c3, ts, rfl, wk, wl, ws, hr, hw⟩
end
end Go.Proofs.Ytgmddookohkhlaa

/- How lists of structs that came in are read. -/
namespace Go.Proofs.Ytgmddookohkhlaa
open Go.RowKit Go.ChangeShapes Go.WideShapes Go.Joins Go.Deep
set_option linter.unusedVariables false

theorem cells_at {w : World} {base n : Nat} {a : Addr} {cs : List Value} (h : w.cells? base a n = some cs) : cs.length = n ∧ ∀ (j : Nat) (u : Value), cs[j]? = some u → w.cell? (a.add j) = some u := by
  unfold World.cells? at h
  split at h
  · have hl := mapM_some_length h
    rw [List.length_range] at hl
    refine ⟨hl, fun j u hu => ?_⟩
    have hj : j < n := by have := (List.getElem?_eq_some_iff.1 hu).1; omega
    have := mapM_some_get h j j (by simp [hj])
    rw [this, hu]
  · cases h

section
variable {H : Type} {enc : TypeId × Value → H} {W : World} {base : Nat} {spare : Nat → Bool} {held : Bool}

set_option maxRecDepth 100000 in
theorem read_row {α : Type} {k : Nat} {TS TE : TypeId} {R : World → List Value → α → Prop} {P : α → Prop} (hu : Try.prog.underlying TS = some (.slice TE)) (hk : Try.prog.cellsOf TE = k) (hk0 : 0 < k) {m : Nat}
    (ih : ∀ n, n < m → ∀ cs x, DataW.trod enc Try.prog W base spare held n TE cs = some x → cs.length = k → ∃ e : α, R W cs e ∧ P e) {v : Value} {x : DataW H × List MemPlace} (h : DataW.trod enc Try.prog W base spare held m TS [v] = some x) : ∃ es : List α, RowOf k R W v es ∧ WfRow P es := by
  rcases DataW.trod_slice hu h with ⟨hv, _⟩ | ⟨a, len, cap, elems, rest, n, rfl, hv, _, _, hlc, hcm, hel, hx, _, _⟩
  · simp only [List.cons.injEq, and_true] at hv
    subst hv
    exact ⟨[], ⟨_, _, rfl, fun i t ht => by simp at ht⟩, by simp, fun t ht => by cases ht⟩
  · simp only [List.cons.injEq, and_true] at hv
    subst hv
    have one : ∀ i, i < len → ∃ e : α, ∃ b o vs, a = ⟨b, o, none⟩ ∧ vs.length = k ∧ (∀ (j : Nat) (u : Value), vs[j]? = some u → W.cell? ⟨b, o + i * k + j, none⟩ = some u) ∧ R W vs e ∧ P e := by
      intro i hi
      have h1 := hx i hi
      rw [List.getElem?_eq_getElem (by omega), hk] at h1
      obtain ⟨cs, hc, h2⟩ := Option.bind_eq_some_iff.1 h1
      obtain ⟨hl, hce⟩ := cells_at hc
      obtain ⟨e, hr, hp⟩ := ih n (by omega) cs _ h2 hl
      have hspot : a.spot = none := by
        have h3 := hx 0 (by omega)
        rw [List.getElem?_eq_getElem (by omega), hk] at h3
        obtain ⟨cs', hc', _⟩ := Option.bind_eq_some_iff.1 h3
        obtain ⟨hl', hce'⟩ := cells_at hc'
        have := World.cell?_spot (hce' 0 cs'[0] (List.getElem?_eq_getElem (by omega)))
        simpa [Addr.add] using this
      obtain ⟨b, o, sp⟩ := a
      simp only at hspot
      subst hspot
      refine ⟨e, b, o, cs, rfl, hl, fun j u hu => ?_, hr, hp⟩
      have := hce j u hu
      rw [Deep.add_add] at this
      simpa only [Addr.add_lit, ← Nat.add_assoc] using this
    by_cases h0 : len = 0
    · subst h0
      exact ⟨[], ⟨some a, cap, rfl, fun i t ht => by simp at ht⟩, by simp, fun t ht => by cases ht⟩
    · obtain ⟨e0, _⟩ := one 0 (by omega)
      haveI : Inhabited α := ⟨e0⟩
      obtain ⟨f, hf⟩ := choose_lt one
      refine ⟨(List.range len).map f, ⟨some a, cap, by simp, fun i t ht => ?_⟩, by simp; unfold maxLen at hcm; omega, fun t ht => ?_⟩
      · have hi : i < len := by have := (List.getElem?_eq_some_iff.1 ht).1; simpa using this
        obtain ⟨b, o, vs, e, h4, h5, h6, _⟩ := hf i hi
        have et : f i = t := by simpa [hi] using ht
        rw [et] at h6
        exact ⟨b, o, vs, by rw [e], h4, h5, h6⟩
      · obtain ⟨i, hi, rfl⟩ := List.mem_map.1 ht
        obtain ⟨b, o, vs, _, _, _, _, h1⟩ := hf i (List.mem_range.1 hi)
        exact h1

end
end Go.Proofs.Ytgmddookohkhlaa
