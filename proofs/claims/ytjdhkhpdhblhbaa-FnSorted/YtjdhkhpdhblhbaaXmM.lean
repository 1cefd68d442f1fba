/- Expressions as data, to whatever depth; the law's own measure, copy and comparison of them. -/
import Derived.Test.YtjdhkhpdhblhbaaRowExprM
import Derived.Test.YtjdhkhpdhblhbaaRowClauseM
import Derived.Test.YtjdhkhpdhblhbaaRowM
namespace Go.Proofs.Ytjdhkhpdhblhbaa
open Go.RowKit
set_option linter.unusedVariables false

/-- An expression of at most d storeys. -/
def Ex : Nat → Type
  | 0 => Empty
  | d + 1 => Int × Int × ByteArray × List (Ex d) × List (Ex d × Ex d)

def Ex.K {d : Nat} (e : Ex (d + 1)) : Int := e.1
def Ex.N {d : Nat} (e : Ex (d + 1)) : Int := e.2.1
def Ex.S {d : Nat} (e : Ex (d + 1)) : ByteArray := e.2.2.1
def Ex.E {d : Nat} (e : Ex (d + 1)) : List (Ex d) := e.2.2.2.1
def Ex.C {d : Nat} (e : Ex (d + 1)) : List (Ex d × Ex d) := e.2.2.2.2
def mkX {d : Nat} (k n : Int) (s : ByteArray) (es : List (Ex d)) (cs : List (Ex d × Ex d)) : Ex (d + 1) := (k, n, s, es, cs)

/-- Two by two. -/
def ClR {α : Type} (R : World → List Value → α → Prop) (w : World) (vs : List Value) (c : α × α) : Prop := ∃ p x, vs = p ++ x ∧ R w p c.1 ∧ R w x c.2
def ClO {α : Type} (O : World → List Value → α → List Nat → Prop) (w : World) (vs : List Value) (c : α × α) (fp : List Nat) : Prop := ∃ p x f g, vs = p ++ x ∧ fp = f ++ g ∧ O w p c.1 f ∧ O w x c.2 g
def ClP {α : Type} (P : α → Prop) (c : α × α) : Prop := P c.1 ∧ P c.2
def ClF {α : Type} (f : α → Nat) (c : α × α) : Nat := f c.1 + f c.2

/-- Five cells that tell an expression. -/
def ExR : (d : Nat) → World → List Value → Ex d → Prop
  | 0, _, _, _ => False
  | d + 1, w, vs, e => ∃ ve vc, vs = [.int .i64 e.K, .int .i64 e.N, .string e.S, ve, vc] ∧ RowOf 5 (ExR d) w ve e.E ∧ RowOf 10 (ClR (ExR d)) w vc e.C

/-- What every expression in memory is within. -/
def WfX : (d : Nat) → Ex d → Prop
  | 0, _ => False
  | d + 1, e => I64 e.K ∧ I64 e.N ∧ e.S.size ≤ maxLen ∧ WfRow (WfX d) e.E ∧ WfRow (ClP (WfX d)) e.C

/-- How great an expression is. -/
def szX : (d : Nat) → Ex d → Nat
  | 0, _ => 0
  | d + 1, e => e.S.size + szRow (szX d) e.E + szRow (ClF (szX d)) e.C

theorem ClR.lasts {α : Type} {R : World → List Value → α → Prop} (h : Lasts R) : Lasts (ClR R) := by
  rintro w w' vs c ⟨p, x, rfl, h1, h2⟩ hb
  exact ⟨p, x, rfl, h _ _ _ _ h1 hb, h _ _ _ _ h2 hb⟩
theorem ClO.lasts {α : Type} {O : World → List Value → α → List Nat → Prop} (h : LastsO O) : LastsO (ClO O) := by
  rintro w w' vs c fp ⟨p, x, f, g, rfl, rfl, h1, h2⟩ hb
  exact ⟨p, x, f, g, rfl, rfl, h _ _ _ _ _ h1 fun j hj => hb j (List.mem_append_left _ hj), h _ _ _ _ _ h2 fun j hj => hb j (List.mem_append_right _ hj)⟩
theorem ClO.reads {α : Type} {O : World → List Value → α → List Nat → Prop} {R : World → List Value → α → Prop} (h : Reads O R) : Reads (ClO O) (ClR R) := by
  rintro w vs c fp ⟨p, x, f, g, rfl, rfl, h1, h2⟩
  exact ⟨p, x, rfl, h _ _ _ _ h1, h _ _ _ _ h2⟩

theorem ExR.lasts : ∀ d, Lasts (ExR d) := by
  intro d
  induction d with
  | zero => intro w w' vs x h _; exact h.elim
  | succ d ih =>
    rintro w w' vs x ⟨ve, vc, rfl, h1, h2⟩ hb
    exact ⟨ve, vc, rfl, h1.later ih hb, h2.later (ClR.lasts ih) hb⟩
theorem ExR.shape : ∀ d w vs x, ExR d w vs x → ShExpr vs := by
  intro d w vs x h
  cases d with
  | zero => exact h.elim
  | succ d =>
    obtain ⟨ve, vc, rfl, h1, h2⟩ := h
    obtain ⟨a, c, rfl⟩ := h1.slice
    obtain ⟨a', c', rfl⟩ := h2.slice
    exact ⟨_, _, _, _, _, _, _, _, _, rfl⟩
theorem sh_two {p x : List Value} (h1 : ShExpr p) (h2 : ShExpr x) : ShClause (p ++ x) := by
  obtain ⟨_, _, _, _, _, _, _, _, _, rfl⟩ := h1
  obtain ⟨_, _, _, _, _, _, _, _, _, rfl⟩ := h2
  exact ⟨_, _, _, _, _, _, _, _, _, _, _, _, _, _, _, _, _, _, rfl⟩
theorem ClR.shape {α : Type} {R : World → List Value → α → Prop} (h : ∀ w vs x, R w vs x → ShExpr vs) : ∀ w vs c, ClR R w vs c → ShClause vs := by
  rintro w vs c ⟨p, x, rfl, h1, h2⟩
  exact sh_two (h _ _ _ h1) (h _ _ _ h2)
theorem ClO.shape {α : Type} {O : World → List Value → α → List Nat → Prop} (h : ∀ w vs x f, O w vs x f → ShExpr vs) : ∀ w vs c f, ClO O w vs c f → ShClause vs := by
  rintro w vs c fp ⟨p, x, f, g, rfl, rfl, h1, h2⟩
  exact sh_two (h _ _ _ _ h1) (h _ _ _ _ h2)

/-! The measure. -/

theorem lft_two (left : Int) (a b : Nat) (h : 0 ≤ left) : (lft left a < 0 → lft left (a + b) = -1) ∧ (¬ lft left a < 0 → lft (lft left a) b = lft left (a + b) ∧ 0 ≤ lft left a ∧ lft left a ≤ left) := by
  unfold lft
  refine ⟨fun h1 => ?_, fun h1 => ?_⟩
  · by_cases h2 : (a : Int) ≤ left
    · rw [if_pos h2] at h1; omega
    · rw [if_neg (by omega)]
  · by_cases h2 : (a : Int) ≤ left
    · rw [if_pos h2] at h1 ⊢
      refine ⟨?_, by omega, by omega⟩
      by_cases h3 : (b : Int) ≤ left - a
      · rw [if_pos h3, if_pos (by omega)]; omega
      · rw [if_neg h3, if_neg (by omega)]
    · rw [if_neg h2] at h1; omega

end Go.Proofs.Ytjdhkhpdhblhbaa

/- The law's own copy and comparison of expressions: the walks. -/
namespace Go.Proofs.Ytjdhkhpdhblhbaa
open Go.RowKit
set_option linter.unusedVariables false

/-- Of all that was there only the blocks of a stretch are turned. -/
structure Kept (p q : Nat) (w w' : World) : Prop where
  os : w'.os = w.os
  tape : w'.tape = w.tape
  output : w'.output = w.output
  size : w.heap.size ≤ w'.heap.size
  block : ∀ g, g < w.heap.size → g < p ∨ q ≤ g → w'.heap[g]? = w.heap[g]?

theorem Kept.refl (p q : Nat) (w : World) : Kept p q w w := ⟨rfl, rfl, rfl, Nat.le_refl _, fun _ _ _ => rfl⟩
theorem Kept.trans {p q : Nat} {a b c : World} (h : Kept p q a b) (k : Kept p q b c) : Kept p q a c :=
  ⟨k.os.trans h.os, k.tape.trans h.tape, k.output.trans h.output, Nat.le_trans h.size k.size, fun g h1 h2 => (k.block g (Nat.lt_of_lt_of_le h1 h.size) h2).trans (h.block g h1 h2)⟩
theorem Kept.drew {p q : Nat} {a w : World} (h : Kept p q a w) : Kept p q a w.drew := h.trans ⟨rfl, rfl, rfl, Nat.le_refl _, fun _ _ _ => rfl⟩
theorem Kept.set {p q : Nat} {a w : World} {g o : Nat} {v : Value} (hg : p ≤ g ∧ g < q) (h : Kept p q a w) : Kept p q a (w.setCell ⟨g, o, none⟩ v) := by
  have b := (Below.refl g w).setCell (p := ⟨g, o, none⟩) (Nat.le_refl g) v
  exact h.trans ⟨b.os, b.tape, b.output, b.size, fun x h1 h2 => heap_setCell_other _ _ _ _ (by simp; omega)⟩
theorem Kept.of_below {p q : Nat} {a b : World} (h : Below a.heap.size a b) : Kept p q a b := ⟨h.os, h.tape, h.output, h.size, fun g hg _ => h.block g hg⟩
theorem Kept.below {p q B : Nat} {a b : World} (h : Kept p q a b) (hp : B ≤ p) (hB : B ≤ a.heap.size) : Below B a b := ⟨h.os, h.tape, h.output, h.size, fun g hg => h.block g (by omega) (.inl (by omega))⟩

theorem heap_three (w : World) (o1 o2 o3 : Obj) : (((w.alloc o1).alloc o2).alloc o3).heap[w.heap.size]? = some o1 ∧ (((w.alloc o1).alloc o2).alloc o3).heap[w.heap.size + 1]? = some o2 ∧ (((w.alloc o1).alloc o2).alloc o3).heap[w.heap.size + 1 + 1]? = some o3 := by
  have h1 := heap_alloc_new w o1
  have h2 := heap_alloc_new (w.alloc o1) o2
  have h3 := heap_alloc_new ((w.alloc o1).alloc o2) o3
  have z1 : (w.alloc o1).heap.size = w.heap.size + 1 := by simp
  have z2 : ((w.alloc o1).alloc o2).heap.size = w.heap.size + 1 + 1 := by simp
  rw [z1] at h2
  rw [z2] at h3
  refine ⟨?_, ?_, h3⟩
  · rw [Below.heap_alloc _ _ _ (by omega), Below.heap_alloc _ _ _ (by omega)]; exact h1
  · rw [Below.heap_alloc _ _ _ (by omega)]; exact h2

theorem fresh_two {B : Nat} {w1 V1 w2 Z : World} {f g : List Nat} {m : Nat} (h1 : Fresh m w1 f) (h2 : Fresh V1.heap.size w2 g) (z1 : w1.heap.size ≤ V1.heap.size) (z2 : V1.heap.size ≤ w2.heap.size) (z3 : w2.heap.size ≤ Z.heap.size) (hB : B ≤ m) (hV : B ≤ V1.heap.size) : Fresh B Z (f ++ g) := by
  refine ⟨List.nodup_append.2 ⟨h1.1, h2.1, fun a ha b hb e => by have := (h1.2 a ha).2; have := (h2.2 b hb).1; omega⟩, fun x hx => ?_⟩
  rcases List.mem_append.1 hx with hx | hx
  · have := h1.2 x hx; omega
  · have := h2.2 x hx; omega

end Go.Proofs.Ytjdhkhpdhblhbaa

/- The law's own copy and comparison of expressions: the rest of the walks. -/
namespace Go.Proofs.Ytjdhkhpdhblhbaa
open Go.RowKit
set_option linter.unusedVariables false

end Go.Proofs.Ytjdhkhpdhblhbaa

/- How lists of structs, and expressions, that came in are read: to whatever depth. -/
namespace Go.Proofs.Ytjdhkhpdhblhbaa
open Go.RowKit Go.ChangeShapes Go.WideShapes Go.Joins Go.Deep
set_option linter.unusedVariables false

section
variable {H : Type} {enc : TypeId × Value → H} {W : World} {base : Nat} {spare : Nat → Bool} {held : Bool}

end
end Go.Proofs.Ytjdhkhpdhblhbaa
