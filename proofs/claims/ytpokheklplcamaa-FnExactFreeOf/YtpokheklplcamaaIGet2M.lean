/- The program's reading of a term, on: its kinds. -/
import Derived.Test.YtpokheklplcamaaIGetM
import Derived.Test.YtpokheklplcamaaIPutM
namespace Go.Proofs.Ytpokheklplcamaa
open Go.RowKit
set_option linter.unusedVariables false

theorem scan_lt (zs : List Int) (a : Nat) : ∀ f k, (scan zs a f k).2.2 = true → (a : Int) < (scan zs a f k).2.1 := by
  intro f
  induction f with
  | zero => intro k h; simp [scan] at h
  | succ f ih =>
    intro k h
    rw [scan] at h ⊢
    split at h
    · rename_i h1
      rw [if_pos h1]
      split at h
      · rename_i h2
        rw [if_pos h2]
        exact ih _ h
      · rename_i h2
        rw [if_neg h2]
        split at h
        · simp at h
        · rename_i h3
          rw [if_neg h3]
          show (a : Int) < ((a + k + 1 : Nat) : Int)
          omega
    · simp at h

theorem getNum_lt (zs : List Int) (p : Int) (h : (getNum zs p).2.2 = true) : p < (getNum zs p).2.1 ∧ (getNum zs p).2.1 ≤ zs.length ∧ -1000000000000 ≤ (getNum zs p).1 ∧ (getNum zs p).1 ≤ 1000000000000 := by
  refine ⟨?_, ((getNum_bd zs p).1 h).2, (getNum_bd zs p).2.1, (getNum_bd zs p).2.2⟩
  unfold getNum at h ⊢
  split at h
  · rename_i h1
    rw [if_pos h1]
    unfold fin at h ⊢
    split at h
    · rename_i h2
      rw [if_pos h2]
      have := scan_lt zs p.toNat 6 0 h2.1
      show p < (scan zs p.toNat 6 0).2.1
      omega
    · simp at h
  · simp at h

theorem getText_lt (zs : List Int) (p : Int) (h : (getText zs p).2.2 = true) : p < (getText zs p).2.1 ∧ (getText zs p).2.1 ≤ zs.length ∧ (getText zs p).1.length ≤ zs.length := by
  unfold getText at h ⊢
  split at h
  · rename_i h1
    rw [if_pos h1]
    have := getNum_lt zs p h1.1
    refine ⟨?_, ?_, ?_⟩
    · show p < (getNum zs p).2.1 + (getNum zs p).1; omega
    · show (getNum zs p).2.1 + (getNum zs p).1 ≤ zs.length; omega
    · show ((zs.drop _).take _).length ≤ _; rw [List.length_take, List.length_drop]; omega
  · simp at h

end Go.Proofs.Ytpokheklplcamaa

/- The program's reading of a term, on: what it is within. -/
namespace Go.Proofs.Ytpokheklplcamaa
open Go.RowKit
set_option linter.unusedVariables false

theorem getT_at {m : Nat} {zs : List Int} {at_ k q : Int} (h : getNum zs at_ = (k, q, true)) : getT zs (m + 1) at_ = getB zs (getT zs m) k q := by
  show (if (getNum zs at_).2.2 = true then getB zs (getT zs m) (getNum zs at_).1 (getNum zs at_).2.1 else none) = _
  rw [h]; rfl
theorem getT_no {m : Nat} {zs : List Int} {at_ : Int} (h : ¬ (getNum zs at_).2.2 = true) : getT zs (m + 1) at_ = none := by
  show (if (getNum zs at_).2.2 = true then _ else none) = _
  rw [if_neg h]
  rfl

end Go.Proofs.Ytpokheklplcamaa

/- The program's reading of a term, on: all storeys. -/
namespace Go.Proofs.Ytpokheklplcamaa
open Go.RowKit
set_option linter.unusedVariables false

end Go.Proofs.Ytpokheklplcamaa

/- The program's reading of a term, on: its parts. -/
namespace Go.Proofs.Ytpokheklplcamaa
open Go.RowKit
set_option linter.unusedVariables false

theorem four_new (w : World) (a b c d : Value) (t : TypeId) : ∀ j u, [a, b, c, d][j]? = some u → (w.alloc (.cells #[a, b, c, d] t)).cell? ((⟨w.heap.size, 0, none⟩ : Addr).add j) = some u := by
  intro j u hj
  match j, hj with
  | 0, hj => simp at hj; subst hj; simp [Addr.add]
  | 1, hj => simp at hj; subst hj; simp [Addr.add]
  | 2, hj => simp at hj; subst hj; simp [Addr.add]
  | 3, hj => simp at hj; subst hj; simp [Addr.add]

theorem lt_of_row' {w : World} {g : Nat} {o : Obj} (h : w.heap[g]? = some o) : g < w.heap.size := Nat.lt_of_not_le fun hn => by rw [Array.getElem?_eq_none hn] at h; cases h

theorem row_slice {w : World} {B e z n : Nat} {v : Value} {xs : List Value} (h : w.ownsRow B e z v n xs) : ∃ a l c, v = .slice a l c := by
  rcases h.2 with ⟨e, _⟩ | ⟨g, c, cur, e1, _⟩
  · exact ⟨_, _, _, e⟩
  · exact ⟨_, _, _, e1⟩

end Go.Proofs.Ytpokheklplcamaa

/- The program's GetTerm: the term that has these bytes and is right, or none. -/
namespace Go.Proofs.Ytpokheklplcamaa
open Go.RowKit
set_option linter.unusedVariables false

theorem turned_below {p : Nat} {w V w1 : World} (hV : Below w.heap.size w V) (hT : Turned p V w1) (hp : w.heap.size ≤ p) : Below w.heap.size w w1 := hV.trans (hT.below hp hV.size)

end Go.Proofs.Ytpokheklplcamaa

/- The model's reading of a term: what is read of the bytes, in new memory. -/
namespace Go.Proofs.Ytpokheklplcamaa
open Go.RowKit
set_option linter.unusedVariables false

/-- A list that was read, as a term of its kind. -/
theorem came_list {m : Nat} {zs : List Int} {at_ k q x r at2 : Int} {ts : List (Tm m)} (hk : ¬ k = 1 ∧ ¬ k = 3 ∧ ¬ k = 2) (h1 : getNum zs at_ = (k, q, true)) (h2 : getNum zs q = (x, r, true)) (hx : 0 ≤ x ∧ x ≤ 60) (h : CameL zs m x.toNat r ts at2) :
    Came zs (m + 1) at_ ((k, 0, ByteArray.empty, ts) : Int × Int × ByteArray × List (Tm m)) at2 := by
  unfold Came
  rw [getT_at h1]
  unfold getB
  rw [if_neg (by omega), if_neg hk.2.2, h2]
  by_cases h45 : k = 4 ∨ k = 5
  · rw [if_pos ⟨h45, rfl, hx.1, hx.2⟩]
    dsimp only
    rcases h with h | ⟨h, gn⟩
    · rw [h]; exact .inl rfl
    · rw [h]; exact .inr ⟨rfl, fun ho => gn ho.2⟩
  · rw [if_neg (fun hc => h45 hc.1)]
    refine .inr ⟨rfl, fun ho => ?_⟩
    have := shape_kind ho.1
    have : k = 1 ∨ k = 2 ∨ k = 3 ∨ k = 4 ∨ k = 5 := this
    omega

theorem none_list {m : Nat} {zs : List Int} {at_ k q x r : Int} (hk : ¬ k = 1 ∧ ¬ k = 3 ∧ ¬ k = 2) (h1 : getNum zs at_ = (k, q, true)) (h2 : getNum zs q = (x, r, true)) (h : getL (getT zs m) x.toNat r = none) : getT zs (m + 1) at_ = none := by
  rw [getT_at h1]
  unfold getB
  rw [if_neg (by omega), if_neg hk.2.2, h2]
  split
  · dsimp only; rw [h]; rfl
  · rfl

end Go.Proofs.Ytpokheklplcamaa

/- The model's reading of a term, on: all kinds and storeys. -/
namespace Go.Proofs.Ytpokheklplcamaa
open Go.RowKit
set_option linter.unusedVariables false

theorem two_below (w : World) (o1 o2 : Obj) : Below w.heap.size w ((w.alloc o1).alloc o2) := ((Below.refl _ _).alloc (Nat.le_refl _) _).alloc (by simp) _
theorem set_below {w Z : World} (h : Below w.heap.size w Z) (g o : Nat) (v : Value) (hg : w.heap.size ≤ g) : Below w.heap.size w (Z.setCell ⟨g, o, none⟩ v) := h.setCell hg _

end Go.Proofs.Ytpokheklplcamaa
