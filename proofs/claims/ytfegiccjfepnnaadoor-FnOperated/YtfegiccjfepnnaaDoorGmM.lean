/- Maps from texts to whatever: what is put in, what is looked up. -/
import Derived.Test.YtfegiccjfepnnaaDoorSMapM
import Derived.Test.YtfegiccjfepnnaaDoorTmM
namespace Go.Proofs.YtfegiccjfepnnaaDoor
open Go.RowKit Go.ChangeMaps Go.MapKept
set_option linter.unusedVariables false

abbrev GEnt := ByteArray × Value
def gntV (q : GEnt) : Value × Value := (.string q.1, q.2)
def gget : List GEnt → ByteArray → Option Value
  | [], _ => none
  | q :: l, s => if q.1 = s then some q.2 else gget l s
/-- Block b is a map that holds just what l tells. -/
def GMap (w : World) (b : Nat) (l : List GEnt) : Prop := ∃ (es : Array MapEntry) (clock : Nat), w.heap[b]? = some (.map es clock) ∧ es.toList.map entV = l.map gntV

theorem GMap.made (w : World) : GMap (w.alloc (.map #[] 0)) w.heap.size [] := ⟨#[], 0, heap_alloc_new w _, rfl⟩
theorem GMap.lt {w : World} {b : Nat} {l : List GEnt} (h : GMap w b l) : b < w.heap.size := by
  obtain ⟨_, _, h, _⟩ := h
  exact Nat.lt_of_not_le fun h2 => by rw [Array.getElem?_eq_none h2] at h; cases h
theorem GMap.kept {w w' : World} {b : Nat} {l : List GEnt} (h : GMap w b l) (hb : w'.heap[b]? = w.heap[b]?) : GMap w' b l := by
  obtain ⟨es, cl, h1, h2⟩ := h
  exact ⟨es, cl, hb.trans h1, h2⟩

theorem find_now (s : ByteArray) : ∀ (l : List GEnt) (es : List MapEntry) (i : Nat), es.map entV = l.map gntV →
    (Instr.findNow .string (.string s) es i = some none ∧ gget l s = none) ∨ ∃ j v, Instr.findNow .string (.string s) es i = some (some (j, v)) ∧ gget l s = some v
  | [], es, i, he => by
    have : es = [] := by simpa using he
    subst this
    exact .inl ⟨rfl, rfl⟩
  | q :: l, es, i, he => by
    cases es with
    | nil => simp at he
    | cons e es =>
      simp only [List.map_cons, List.cons.injEq] at he
      obtain ⟨h1, h2⟩ := he
      have hk : e.key = .string q.1 := congrArg Prod.fst h1
      have hv : e.val = q.2 := congrArg Prod.snd h1
      by_cases hq : q.1 = s
      · subst hq
        have hb : (q.1 == q.1) = true := (bytes_beq _ _).2 rfl
        exact .inr ⟨i, q.2, by simp [Instr.findNow, Instr.sameNow, hk, hv, hb], by simp [gget]⟩
      · have hb : (s == q.1) = false := by rw [Bool.eq_false_iff]; intro h; exact hq ((bytes_beq _ _).1 h).symm
        rcases find_now s l es (i + 1) h2 with ⟨r1, r2⟩ | ⟨j, v, r1, r2⟩
        · exact .inl ⟨by simp [Instr.findNow, Instr.sameNow, hk, hb, r1], by simp [gget, hq, r2]⟩
        · exact .inr ⟨j, v, by simp [Instr.findNow, Instr.sameNow, hk, hb, r1], by simp [gget, hq, r2]⟩

theorem chk_str (w : World) (em : Bool) (s : ByteArray) : (Instr.checkKey em 10000 9 (.string s)).run Tryd.prog w = .ok () w := by
  unfold Instr.checkKey
  simp [run_underlying Tryd.underlying9, Result.andThen]

theorem GMap.look {t e : TypeId} (ht : Tryd.prog.underlying t = some (.map 9 e)) {w : World} {b : Nat} {l : List GEnt} (h : GMap w b l) (s : ByteArray) {z : Value} (hz : (zeroValue e).run Tryd.prog w = .ok z w) :
    (Instr.lookup t (.map (some b)) (.string s) false).run Tryd.prog w = .ok ((gget l s).getD z) w := by
  obtain ⟨es, cl, h1, h2⟩ := h
  rcases find_now s l es.toList 0 h2 with ⟨r1, r2⟩ | ⟨j, v, r1, r2⟩
  · have r := run_findKey (w := w) Tryd.underlying9 r1
    simp [Instr.lookup, run_underlying ht, MapKept.run_getObj_map h1, chk_str, r, r2, hz, Result.andThen]
  · have r := run_findKey (w := w) Tryd.underlying9 r1
    simp [Instr.lookup, run_underlying ht, MapKept.run_getObj_map h1, chk_str, r, r2, Result.andThen]

theorem GMap.store {t e : TypeId} (ht : Tryd.prog.underlying t = some (.map 9 e)) {w : World} {b : Nat} {l : List GEnt} (h : GMap w b l) (s : ByteArray) (hn : gget l s = none) (v : Value) :
    ∃ w', (Instr.mapUpdate t (.map (some b)) (.string s) v).run Tryd.prog w = .ok () w' ∧ GMap w' b (l ++ [(s, v)]) ∧ w.mapTurned w' b := by
  have hb := h.lt
  obtain ⟨es, cl, h1, h2⟩ := h
  have hat : ∀ (o1 : Array MapEntry) (o2 : Nat), (setBlock w b (.map o1 o2)).heap[b]? = some (.map o1 o2) := fun o1 o2 => by simp [setBlock, hb]
  rcases find_now s l es.toList 0 h2 with ⟨r1, r2⟩ | ⟨j, v0, r1, r2⟩
  · have r := run_findKey (w := w) Tryd.underlying9 r1
    refine ⟨setBlock w b (.map (es.push { key := .string s, val := v, born := cl }) (cl + 1)), ?_, ⟨_, _, hat _ _, ?_⟩, es, cl, _, _, h1, rfl⟩
    · simp [Instr.mapUpdate, run_underlying ht, MapKept.run_getObj_map h1, MapKept.run_setObj_map _ h1, chk_str, r, Result.andThen, setBlock]
    · simp [h2, entV, gntV]
  · rw [hn] at r2; cases r2

end Go.Proofs.YtfegiccjfepnnaaDoor
