/- Expressions as data, to whatever depth; the law's own measure, copy and comparison of them. -/
import Derived.Test.YtkfpfijblflcfaaRowExpr
import Derived.Test.YtkfpfijblflcfaaRowClause
namespace Go.Proofs.Ytkfpfijblflcfaa
open Go.RowKit
set_option linter.unusedVariables false

/-- An expression of at most d storeys. -/
def Ex : Nat → Type
  | 0 => Empty
  | d + 1 => Int × Int × ByteArray × List (Ex d) × List (Ex d × Ex d)

def Ex.K {d : Nat} (e : Ex (d + 1)) : Int := e.1
def Ex.N {d : Nat} (e : Ex (d + 1)) : Int := e.2.1
def Ex.S {d : Nat} (e : Ex (d + 1)) : ByteArray := e.2.2.1
def Ex.E {d : Nat} (e : Ex (d + 1)) : List (Ex d) := e.2.2.2.1
def Ex.C {d : Nat} (e : Ex (d + 1)) : List (Ex d × Ex d) := e.2.2.2.2
def mkX {d : Nat} (k n : Int) (s : ByteArray) (es : List (Ex d)) (cs : List (Ex d × Ex d)) : Ex (d + 1) := (k, n, s, es, cs)

/-- Two by two. -/
def ClR {α : Type} (R : World → List Value → α → Prop) (w : World) (vs : List Value) (c : α × α) : Prop := ∃ p x, vs = p ++ x ∧ R w p c.1 ∧ R w x c.2
def ClO {α : Type} (O : World → List Value → α → List Nat → Prop) (w : World) (vs : List Value) (c : α × α) (fp : List Nat) : Prop := ∃ p x f g, vs = p ++ x ∧ fp = f ++ g ∧ O w p c.1 f ∧ O w x c.2 g
def ClP {α : Type} (P : α → Prop) (c : α × α) : Prop := P c.1 ∧ P c.2
def ClF {α : Type} (f : α → Nat) (c : α × α) : Nat := f c.1 + f c.2

/-- Five cells that tell an expression. -/
def ExR : (d : Nat) → World → List Value → Ex d → Prop
  | 0, _, _, _ => False
  | d + 1, w, vs, e => ∃ ve vc, vs = [.int .i64 e.K, .int .i64 e.N, .string e.S, ve, vc] ∧ RowOf 5 (ExR d) w ve e.E ∧ RowOf 10 (ClR (ExR d)) w vc e.C

/-- What every expression in memory is within. -/
def WfX : (d : Nat) → Ex d → Prop
  | 0, _ => False
  | d + 1, e => I64 e.K ∧ I64 e.N ∧ e.S.size ≤ maxLen ∧ WfRow (WfX d) e.E ∧ WfRow (ClP (WfX d)) e.C

/-- How great an expression is. -/
def szX : (d : Nat) → Ex d → Nat
  | 0, _ => 0
  | d + 1, e => e.S.size + szRow (szX d) e.E + szRow (ClF (szX d)) e.C

theorem ClR.lasts {α : Type} {R : World → List Value → α → Prop} (h : Lasts R) : Lasts (ClR R) := by
  rintro w w' vs c ⟨p, x, rfl, h1, h2⟩ hb
  exact ⟨p, x, rfl, h _ _ _ _ h1 hb, h _ _ _ _ h2 hb⟩
theorem ClO.lasts {α : Type} {O : World → List Value → α → List Nat → Prop} (h : LastsO O) : LastsO (ClO O) := by
  rintro w w' vs c fp ⟨p, x, f, g, rfl, rfl, h1, h2⟩ hb
  exact ⟨p, x, f, g, rfl, rfl, h _ _ _ _ _ h1 fun j hj => hb j (List.mem_append_left _ hj), h _ _ _ _ _ h2 fun j hj => hb j (List.mem_append_right _ hj)⟩
theorem ClO.reads {α : Type} {O : World → List Value → α → List Nat → Prop} {R : World → List Value → α → Prop} (h : Reads O R) : Reads (ClO O) (ClR R) := by
  rintro w vs c fp ⟨p, x, f, g, rfl, rfl, h1, h2⟩
  exact ⟨p, x, rfl, h _ _ _ _ h1, h _ _ _ _ h2⟩

theorem ExR.lasts : ∀ d, Lasts (ExR d) := by
  intro d
  induction d with
  | zero => intro w w' vs x h _; exact h.elim
  | succ d ih =>
    rintro w w' vs x ⟨ve, vc, rfl, h1, h2⟩ hb
    exact ⟨ve, vc, rfl, h1.later ih hb, h2.later (ClR.lasts ih) hb⟩
theorem ExR.shape : ∀ d w vs x, ExR d w vs x → ShExpr vs := by
  intro d w vs x h
  cases d with
  | zero => exact h.elim
  | succ d =>
    obtain ⟨ve, vc, rfl, h1, h2⟩ := h
    obtain ⟨a, c, rfl⟩ := h1.slice
    obtain ⟨a', c', rfl⟩ := h2.slice
    exact ⟨_, _, _, _, _, _, _, _, _, rfl⟩
theorem sh_two {p x : List Value} (h1 : ShExpr p) (h2 : ShExpr x) : ShClause (p ++ x) := by
  obtain ⟨_, _, _, _, _, _, _, _, _, rfl⟩ := h1
  obtain ⟨_, _, _, _, _, _, _, _, _, rfl⟩ := h2
  exact ⟨_, _, _, _, _, _, _, _, _, _, _, _, _, _, _, _, _, _, rfl⟩
theorem ClR.shape {α : Type} {R : World → List Value → α → Prop} (h : ∀ w vs x, R w vs x → ShExpr vs) : ∀ w vs c, ClR R w vs c → ShClause vs := by
  rintro w vs c ⟨p, x, rfl, h1, h2⟩
  exact sh_two (h _ _ _ h1) (h _ _ _ h2)
theorem ClO.shape {α : Type} {O : World → List Value → α → List Nat → Prop} (h : ∀ w vs x f, O w vs x f → ShExpr vs) : ∀ w vs c f, ClO O w vs c f → ShClause vs := by
  rintro w vs c fp ⟨p, x, f, g, rfl, rfl, h1, h2⟩
  exact sh_two (h _ _ _ _ h1) (h _ _ _ _ h2)

/-! The measure. -/

theorem lft_two (left : Int) (a b : Nat) (h : 0 ≤ left) : (lft left a < 0 → lft left (a + b) = -1) ∧ (¬ lft left a < 0 → lft (lft left a) b = lft left (a + b) ∧ 0 ≤ lft left a ∧ lft left a ≤ left) := by
  unfold lft
  refine ⟨fun h1 => ?_, fun h1 => ?_⟩
  · by_cases h2 : (a : Int) ≤ left
    · rw [if_pos h2] at h1; omega
    · rw [if_neg (by omega)]
  · by_cases h2 : (a : Int) ≤ left
    · rw [if_pos h2] at h1 ⊢
      refine ⟨?_, by omega, by omega⟩
      by_cases h3 : (b : Int) ≤ left - a
      · rw [if_pos h3, if_pos (by omega)]; omega
      · rw [if_neg h3, if_neg (by omega)]
    · rw [if_neg h2] at h1; omega

end Go.Proofs.Ytkfpfijblflcfaa
