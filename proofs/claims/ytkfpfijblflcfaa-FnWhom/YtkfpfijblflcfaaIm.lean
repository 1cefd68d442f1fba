/- Maps from numbers to whatever: what is put in, what is looked up. -/
import Derived.Test.YtkfpfijblflcfaaSMap
import Derived.Test.YtkfpfijblflcfaaTm
namespace Go.Proofs.Ytkfpfijblflcfaa
open Go.RowKit Go.ChangeMaps Go.MapKept
set_option linter.unusedVariables false

abbrev IEnt := Int × Value
def imtV (q : IEnt) : Value × Value := (.int .i64 q.1, q.2)
def imget : List IEnt → Int → Option Value
  | [], _ => none
  | q :: l, n => if q.1 = n then some q.2 else imget l n
/-- Block b is a map that holds just what l tells. -/
def IMap (w : World) (b : Nat) (l : List IEnt) : Prop := ∃ (es : Array MapEntry) (clock : Nat), w.heap[b]? = some (.map es clock) ∧ es.toList.map entV = l.map imtV

theorem IMap.made (w : World) : IMap (w.alloc (.map #[] 0)) w.heap.size [] := ⟨#[], 0, heap_alloc_new w _, rfl⟩
theorem IMap.lt {w : World} {b : Nat} {l : List IEnt} (h : IMap w b l) : b < w.heap.size := by
  obtain ⟨_, _, h, _⟩ := h
  exact Nat.lt_of_not_le fun h2 => by rw [Array.getElem?_eq_none h2] at h; cases h

theorem find_int (n : Int) : ∀ (l : List IEnt) (es : List MapEntry) (i : Nat), es.map entV = l.map imtV →
    (Instr.findNow (.int .i64) (.int .i64 n) es i = some none ∧ imget l n = none) ∨ ∃ j v, Instr.findNow (.int .i64) (.int .i64 n) es i = some (some (j, v)) ∧ imget l n = some v
  | [], es, i, he => by
    have : es = [] := by simpa using he
    subst this
    exact .inl ⟨rfl, rfl⟩
  | q :: l, es, i, he => by
    cases es with
    | nil => simp at he
    | cons e es =>
      simp only [List.map_cons, List.cons.injEq] at he
      obtain ⟨h1, h2⟩ := he
      have hk : e.key = .int .i64 q.1 := congrArg Prod.fst h1
      have hv : e.val = q.2 := congrArg Prod.snd h1
      by_cases hq : q.1 = n
      · subst hq
        exact .inr ⟨i, q.2, by simp [Instr.findNow, Instr.sameNow, hk, hv], by simp [imget]⟩
      · have hb : (n == q.1) = false := by rw [beq_eq_false_iff_ne]; exact fun e => hq e.symm
        rcases find_int n l es (i + 1) h2 with ⟨r1, r2⟩ | ⟨j, v, r1, r2⟩
        · exact .inl ⟨by simp [Instr.findNow, Instr.sameNow, hk, hb, r1], by simp [imget, hq, r2]⟩
        · exact .inr ⟨j, v, by simp [Instr.findNow, Instr.sameNow, hk, hb, r1], by simp [imget, hq, r2]⟩

theorem chk_int (w : World) (em : Bool) (n : Int) : (Instr.checkKey em 10000 3 (.int .i64 n)).run Try.prog w = .ok () w := by
  unfold Instr.checkKey
  simp [run_underlying Try.underlying3, Result.andThen]

theorem IMap.look {t e : TypeId} (ht : Try.prog.underlying t = some (.map 3 e)) {w : World} {b : Nat} {l : List IEnt} (h : IMap w b l) (n : Int) {z : Value} (hz : (zeroValue e).run Try.prog w = .ok z w) :
    (Instr.lookup t (.map (some b)) (.int .i64 n) true).run Try.prog w = .ok (.tuple #[(imget l n).getD z, .bool (imget l n).isSome]) w := by
  obtain ⟨es, cl, h1, h2⟩ := h
  rcases find_int n l es.toList 0 h2 with ⟨r1, r2⟩ | ⟨j, v, r1, r2⟩
  · have r := run_findKey (w := w) Try.underlying3 r1
    simp [Instr.lookup, run_underlying ht, MapKept.run_getObj_map h1, chk_int, r, r2, hz, Result.andThen]
  · have r := run_findKey (w := w) Try.underlying3 r1
    simp [Instr.lookup, run_underlying ht, MapKept.run_getObj_map h1, chk_int, r, r2, Result.andThen]

/-- A table under way: the map alone is new. -/
structure IT (w V : World) (l : List IEnt) : Prop where
  bel : Below w.heap.size w V
  mp : IMap V w.heap.size l

theorem IT.made (w : World) : IT w (w.alloc (.map #[] 0)) [] := ⟨(Below.refl _ _).alloc (Nat.le_refl _) _, IMap.made w⟩
theorem IT.step {t e : TypeId} (ht : Try.prog.underlying t = some (.map 3 e)) {w V : World} {l : List IEnt} (h : IT w V l) (n : Int) (hn : imget l n = none) (v : Value) :
    ∃ V2, (Instr.mapUpdate t (.map (some w.heap.size)) (.int .i64 n) v).run Try.prog V = .ok () V2 ∧ IT w V2 (l ++ [(n, v)]) := by
  have hb := h.mp.lt
  obtain ⟨es, cl, h1, h2⟩ := h.mp
  have hat : ∀ (o1 : Array MapEntry) (o2 : Nat), (setBlock V w.heap.size (.map o1 o2)).heap[w.heap.size]? = some (.map o1 o2) := fun o1 o2 => by simp [setBlock, hb]
  rcases find_int n l es.toList 0 h2 with ⟨r1, r2⟩ | ⟨j, v0, r1, r2⟩
  · have r := run_findKey (w := V) Try.underlying3 r1
    refine ⟨setBlock V w.heap.size (.map (es.push { key := .int .i64 n, val := v, born := cl }) (cl + 1)), ?_, ?_, _, _, hat _ _, ?_⟩
    · simp [Instr.mapUpdate, run_underlying ht, MapKept.run_getObj_map h1, MapKept.run_setObj_map _ h1, chk_int, r, Result.andThen, setBlock]
    · refine h.bel.trans ⟨rfl, rfl, rfl, by simp [setBlock], fun i hi => ?_⟩
      simp [setBlock, show w.heap.size ≠ i by omega]
    · simp [h2, entV, imtV]
  · rw [hn] at r2; cases r2

end Go.Proofs.Ytkfpfijblflcfaa
