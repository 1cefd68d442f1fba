/- The program's way through a pattern by slots: what it asks, as data. -/
import Derived.Test.YtfcdmmmihiojoaaPf2
namespace Go.Proofs.Ytfcdmmmihiojoaa
open Go.RowKit
set_option linter.unusedVariables false

def FineP (sl : Int) : (d : Nat) → Int → Tm d → Prop
  | 0, _, _ => False
  | d + 1, D, x => 1 ≤ D ∧ ShapeQ sl x.K x.N x.S x.L.length ∧ ∀ t ∈ x.L, FineP sl d (D - 1) t
def cntT : (d : Nat) → Tm d → Nat
  | 0, _ => 0
  | d + 1, x => 1 + (x.L.map (cntT d)).sum
/-- Right, of no more than are left, no slot twice. -/
def FitsP (sl : Int) (d : Nat) (D L : Int) (tk : List Int) (x : Tm d) : Prop := FineP sl d D x ∧ (cntT d x : Int) ≤ L ∧ (tk ++ slotsP d x).Nodup
/-- .. the first j parts. -/
def PrP (sl : Int) (d : Nat) (D L : Int) (tk : List Int) (ts : List (Tm d)) (j : Nat) : Prop := (∀ t ∈ ts.take j, FineP sl d (D - 1) t) ∧ ((1 + sumP (cntT d) ts j : Nat) : Int) ≤ L ∧ (tk ++ (ts.take j).flatMap (slotsP d)).Nodup

theorem mem_take_next {α : Type} {xs : List α} {j : Nat} {x y : α} (h : xs[j]? = some x) (hy : y ∈ xs.take (j + 1)) : y ∈ xs.take j ∨ y = x := by
  have hl := (List.getElem?_eq_some_iff.1 h).1
  rw [List.take_succ_eq_append_getElem hl, (List.getElem?_eq_some_iff.1 h).2] at hy
  simpa using hy
theorem flat_next {α β : Type} (f : α → List β) {xs : List α} {j : Nat} {x : α} (h : xs[j]? = some x) : (xs.take (j + 1)).flatMap f = (xs.take j).flatMap f ++ f x := by
  have hl := (List.getElem?_eq_some_iff.1 h).1
  rw [List.take_succ_eq_append_getElem hl, (List.getElem?_eq_some_iff.1 h).2]
  simp
theorem sumP_end {α : Type} (f : α → Nat) (xs : List α) : sumP f xs xs.length = (xs.map f).sum := by unfold sumP; rw [List.take_length]

theorem PrP.start {sl : Int} {d : Nat} {D L : Int} {tk : List Int} {ts : List (Tm d)} (h : 1 ≤ L) (hn : tk.Nodup) : PrP sl d D L tk ts 0 :=
  ⟨fun x hx => by simp at hx, by show ((1 + 0 : Nat) : Int) ≤ L; omega, by simpa using hn⟩
theorem PrP.step {sl : Int} {d : Nat} {D L : Int} {tk : List Int} {ts : List (Tm d)} {j : Nat} {x : Tm d} (hx : ts[j]? = some x) (h : PrP sl d D L tk ts j) (hf : FitsP sl d (D - 1) (L - 1 - sumP (cntT d) ts j) (tk ++ (ts.take j).flatMap (slotsP d)) x) : PrP sl d D L tk ts (j + 1) := by
  have h1 := sumP_succ (cntT d) ts j x hx
  obtain ⟨f1, f2, f3⟩ := hf
  refine ⟨fun y hy => ?_, by omega, ?_⟩
  · rcases mem_take_next hx hy with h2 | rfl
    · exact h.1 y h2
    · exact f1
  · rw [flat_next _ hx, ← List.append_assoc]; exact f3
theorem FitsP.all {sl : Int} {d : Nat} {D L : Int} {tk : List Int} {x : Tm (d + 1)} (hd : 1 ≤ D) (hs : ShapeQ sl x.K x.N x.S x.L.length) (h : PrP sl d D L (tk ++ ownSlot x.K x.N) x.L x.L.length) : FitsP sl (d + 1) D L tk x := by
  obtain ⟨h1, h2, h3⟩ := h
  rw [List.take_length] at h1 h3
  rw [sumP_end] at h2
  refine ⟨⟨hd, hs, h1⟩, h2, ?_⟩
  show (tk ++ (ownSlot x.K x.N ++ x.L.flatMap (slotsP d))).Nodup
  rw [← List.append_assoc]
  exact h3
theorem FitsP.part {sl : Int} {d : Nat} {D L : Int} {tk : List Int} {x : Tm (d + 1)} (h : FitsP sl (d + 1) D L tk x) {j : Nat} {t : Tm d} (ht : x.L[j]? = some t) : FitsP sl d (D - 1) (L - 1 - sumP (cntT d) x.L j) (tk ++ ownSlot x.K x.N ++ (x.L.take j).flatMap (slotsP d)) t := by
  obtain ⟨⟨_, _, h3⟩, h5, h6⟩ := h
  have h1 := sumP_succ (cntT d) x.L j t ht
  have h2 := sumP_le (cntT d) x.L (j + 1)
  have h4 : cntT (d + 1) x = 1 + (x.L.map (cntT d)).sum := rfl
  refine ⟨h3 t (List.mem_of_getElem? ht), by omega, ?_⟩
  have e : slotsP (d + 1) x = ownSlot x.K x.N ++ x.L.flatMap (slotsP d) := rfl
  rw [e, ← List.take_append_drop (j + 1) x.L, List.flatMap_append, flat_next _ ht, ← List.append_assoc, ← List.append_assoc, ← List.append_assoc] at h6
  exact (List.nodup_append.1 h6).1
theorem cntT_pos (d : Nat) (x : Tm (d + 1)) : 1 ≤ cntT (d + 1) x := by show 1 ≤ 1 + _; omega

/-! The same as the model's words. -/
theorem fine_okQ (sl : Int) : ∀ (d : Nat) (ts : List (Tm d)) (D : Int), (∀ t ∈ ts, FineP sl d D t) ↔ OkQ sl d ts ∧ (ts = [] ∨ (depL d ts : Int) ≤ D) := by
  intro d
  induction d with
  | zero =>
    intro ts D
    cases ts with
    | nil => exact ⟨fun _ => ⟨trivial, .inl rfl⟩, fun _ t ht => by simp at ht⟩
    | cons t _ => exact Empty.elim t
  | succ d ih =>
    intro ts D
    constructor
    · intro h
      refine ⟨fun t ht => ⟨(h t ht).2.1, ((ih t.L (D - 1)).1 (h t ht).2.2).1⟩, ?_⟩
      by_cases he : ts = []
      · exact .inl he
      · right
        obtain ⟨t0, ht0⟩ := List.exists_mem_of_ne_nil ts he
        have h0 := (h t0 ht0).1
        have : depL (d + 1) ts ≤ D.toNat := depL_le.2 fun t ht => by
          have h1 := (h t ht).1
          rcases ((ih t.L (D - 1)).1 (h t ht).2.2).2 with e | e
          · rw [e]
            have : depL d [] = 0 := by cases d <;> rfl
            omega
          · omega
        omega
    · rintro ⟨h1, h2⟩ t ht
      have h3 := h1 t ht
      rcases h2 with rfl | h2
      · simp at ht
      · have h4 : 1 + depL d t.L ≤ depL (d + 1) ts := (depL_le (m := depL (d + 1) ts)).1 (Nat.le_refl _) t ht
        exact ⟨by omega, h3.1, (ih t.L (D - 1)).2 ⟨h3.2, .inr (by omega)⟩⟩
theorem cntL_sum : ∀ (d : Nat) (ts : List (Tm d)), cntL d ts = (ts.map (cntT d)).sum := by
  intro d
  induction d with
  | zero =>
    intro ts
    cases ts with
    | nil => rfl
    | cons t _ => exact Empty.elim t
  | succ d ih =>
    intro ts
    show (ts.map fun t => 1 + cntL d t.L).sum = (ts.map fun x => 1 + (x.L.map (cntT d)).sum).sum
    simp only [ih]
theorem fits_pat (sl : Int) (d : Nat) (x : Tm (d + 1)) : FitsP sl (d + 1) 10 300 [] x ↔ RightQ sl d x.K x.N x.S x.L 10 300 ∧ (slotsP (d + 1) x).Nodup := by
  have e1 := fine_okQ sl d x.L (10 - 1)
  have e2 := cntL_sum d x.L
  have e3 : cntT (d + 1) x = 1 + (x.L.map (cntT d)).sum := rfl
  have e4 : depL d ([] : List (Tm d)) = 0 := by cases d <;> rfl
  unfold FitsP RightQ
  rw [List.nil_append]
  constructor
  · rintro ⟨⟨_, h2, h3⟩, h4, h5⟩
    obtain ⟨q1, q2⟩ := e1.1 h3
    refine ⟨⟨h2, q1, ?_, by omega⟩, h5⟩
    rcases q2 with q | q
    · rw [q, e4]; decide
    · omega
  · rintro ⟨⟨h1, h2, h3, h4⟩, h5⟩
    exact ⟨⟨by omega, h1, e1.2 ⟨h2, .inr (by omega)⟩⟩, by omega, h5⟩

end Go.Proofs.Ytfcdmmmihiojoaa
