/- What is read of bytes as a term, and how a list of terms is built in new memory one by one. -/
import Derived.Test.YtfachfimdenapaaDoorNumM
import Derived.Test.YtfachfimdenapaaDoorMarkTM
import Derived.Test.YtfachfimdenapaaDoorTmM
import Derived.Maps.AppendAt
namespace Go.Proofs.YtfachfimdenapaaDoor
open Go.RowKit
set_option linter.unusedVariables false

/-- So many read one behind the other. -/
def getL {α : Type} (f : Int → Option (α × Int)) : Nat → Int → Option (List α × Int)
  | 0, q => some ([], q)
  | m + 1, q => match getL f m q with
    | none => none
    | some (ts, r) => match f r with
      | none => none
      | some (t, r') => some (ts ++ [t], r')

/-- What is read behind a kind. -/
def getB {m : Nat} (zs : List Int) (f : Int → Option (Tm m × Int)) (k p : Int) : Option ((Int × Int × ByteArray × List (Tm m)) × Int) :=
  if k = 1 ∨ k = 3 then (if (getNum zs p).2.2 = true then some ((k, (getNum zs p).1, ByteArray.empty, []), (getNum zs p).2.1) else none)
  else if k = 2 then (if (getText zs p).2.2 = true then some ((k, 0, strOfNums (getText zs p).1, []), (getText zs p).2.1) else none)
  else if (k = 4 ∨ k = 5) ∧ (getNum zs p).2.2 = true ∧ 0 ≤ (getNum zs p).1 ∧ (getNum zs p).1 ≤ 60 then
    (match getL f (getNum zs p).1.toNat (getNum zs p).2.1 with
      | none => none
      | some (ts, r) => some ((k, 0, ByteArray.empty, ts), r))
  else none

/-- A term of at most m storeys, read at a place. -/
def getT (zs : List Int) : (m : Nat) → Int → Option (Tm m × Int)
  | 0, _ => none
  | m + 1, p => if (getNum zs p).2.2 = true then getB zs (getT zs m) (getNum zs p).1 (getNum zs p).2.1 else none

/-- A term that is right, all storeys. -/
def OkT : (m : Nat) → Tm m → Prop
  | 0, _ => False
  | m + 1, t => Shape t.K t.N t.S t.L.length ∧ OkL m t.L
/-- What every term in memory is within. -/
def WfT : (m : Nat) → Tm m → Prop
  | 0, _ => False
  | m + 1, t => I64 t.K ∧ I64 t.N ∧ t.S.size ≤ maxLen ∧ WfL m t.L

/-- What came of a reading: the term, or one that isn't right where there is none. -/
def Came (zs : List Int) (m : Nat) (p : Int) (t : Tm m) (q : Int) : Prop := getT zs m p = some (t, q) ∨ (getT zs m p = none ∧ ¬ OkT m t)
/-- What came of the reading of a list. -/
def CameL (zs : List Int) (m j : Nat) (p : Int) (ts : List (Tm m)) (q : Int) : Prop := getL (getT zs m) j p = some (ts, q) ∨ (getL (getT zs m) j p = none ∧ ¬ OkL m ts)

theorem getL_none {α : Type} {f : Int → Option (α × Int)} {p : Int} : ∀ {j i : Nat}, getL f j p = none → j ≤ i → getL f i p = none := by
  intro j i h hi
  induction i with
  | zero => obtain rfl : j = 0 := by omega
            exact h
  | succ i ih =>
    by_cases he : j = i + 1
    · rw [← he]; exact h
    · have := ih (by omega)
      show (match getL f i p with | none => none | some (ts, r) => _) = none
      rw [this]

theorem getL_succ {α : Type} {f : Int → Option (α × Int)} {p r r' : Int} {j : Nat} {ts : List α} {t : α} (h : getL f j p = some (ts, r)) (h2 : f r = some (t, r')) : getL f (j + 1) p = some (ts ++ [t], r') := by
  show (match getL f j p with | none => none | some (ts, r) => match f r with | none => none | some (t, r') => some (ts ++ [t], r')) = _
  rw [h]
  show (match f r with | none => none | some (t, r') => some (ts ++ [t], r')) = _
  rw [h2]
theorem getL_fail {α : Type} {f : Int → Option (α × Int)} {p r : Int} {j : Nat} {ts : List α} (h : getL f j p = some (ts, r)) (h2 : f r = none) : getL f (j + 1) p = none := by
  show (match getL f j p with | none => none | some (ts, r) => match f r with | none => none | some (t, r') => some (ts ++ [t], r')) = _
  rw [h]
  show (match f r with | none => none | some (t, r') => some (ts ++ [t], r')) = _
  rw [h2]

theorem okL_mem : ∀ {m : Nat} {ts : List (Tm m)}, OkL m ts → ∀ t ∈ ts, OkT m t := by
  intro m ts h t ht
  cases m with
  | zero => exact Empty.elim t
  | succ m => exact h t ht
theorem okL_left {m : Nat} {ts us : List (Tm m)} (h : OkL m (ts ++ us)) : OkL m ts := by
  cases m with
  | zero => trivial
  | succ m => exact fun t ht => h t (List.mem_append_left _ ht)

theorem came_step {zs : List Int} {m j : Nat} {p q q' : Int} {ts : List (Tm m)} {t : Tm m} (h : CameL zs m j p ts q) (h2 : Came zs m q t q') : CameL zs m (j + 1) p (ts ++ [t]) q' := by
  rcases h with h | ⟨h, hn⟩
  · rcases h2 with h2 | ⟨h2, hn⟩
    · exact .inl (getL_succ h h2)
    · exact .inr ⟨getL_fail h h2, fun ho => hn (okL_mem ho t (by simp))⟩
  · exact .inr ⟨getL_none h (by omega), fun ho => hn (okL_left ho)⟩
theorem came_fail {zs : List Int} {m j : Nat} {p q : Int} {ts : List (Tm m)} (h : CameL zs m j p ts q) (h2 : getT zs m q = none) : getL (getT zs m) (j + 1) p = none := by
  rcases h with h | ⟨h, hn⟩
  · exact getL_fail h h2
  · exact getL_none h (by omega)

theorem take_at {α : Type} {l xs : List α} {n i : Nat} {x : α} (h : l.take n = xs) (hx : xs[i]? = some x) : l[i]? = some x := by
  rw [← h] at hx
  rw [List.getElem?_take] at hx
  split at hx
  · exact hx
  · cases hx

theorem rowKept {w w' : World} {B e z n : Nat} {v : Value} {xs : List Value} (h : w.ownsRow B e z v n xs) (hb : ∀ g, v.ownBlock = some g → w'.heap[g]? = w.heap[g]?) : w'.ownsRow B e z v n xs := by
  obtain ⟨h1, h2⟩ := h
  refine ⟨h1, ?_⟩
  rcases h2 with h2 | ⟨g, c, cur, e1, e2, e3, e4⟩
  · exact .inl h2
  · exact .inr ⟨g, c, cur, e1, e2, (hb g (by rw [e1]; rfl)).trans e3, e4⟩

end Go.Proofs.YtfachfimdenapaaDoor
