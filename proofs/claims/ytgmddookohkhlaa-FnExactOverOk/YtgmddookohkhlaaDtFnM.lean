/- A struct of the laws as data: Fn; the law's own measure, copy and comparison of it; how it is read. -/
import Derived.Test.YtgmddookohkhlaaDt0M
import Derived.Test.YtgmddookohkhlaaOkM
import Derived.Test.YtgmddookohkhlaaRowFnM
import Derived.Test.YtgmddookohkhlaaDtInsM
namespace Go.Proofs.Ytgmddookohkhlaa
open Go.RowKit Go.ChangeShapes Go.WideShapes Go.Joins Go.Deep
set_option linter.unusedVariables false

structure DFn where
  Name : ByteArray
  Args : Int
  Slots : Int
  Ins : List DIns


def FnR (w : World) (vs : List Value) (x : DFn) : Prop := ∃ v3, vs = [.string x.Name, .int .i64 x.Args, .int .i64 x.Slots, v3] ∧ RowOf 4 InsR w v3 x.Ins

def WfFn (x : DFn) : Prop := x.Name.size ≤ maxLen ∧ I64 x.Args ∧ I64 x.Slots ∧ WfRow WfIns x.Ins

def szFnD (x : DFn) : Nat := x.Name.size + (szRow szInsD x.Ins)

theorem FnR.lasts : Lasts (FnR) := by
  rintro w w' vs x ⟨v3, rfl, h0⟩ hb
  exact ⟨v3, rfl, (h0.later InsR.lasts hb)⟩

theorem FnR.shape : ∀ w vs x, FnR w vs x → ShFn vs := by
  rintro w vs x ⟨v3, rfl, h0⟩
  obtain ⟨q0a3, q0l3, q0c3, rfl⟩ := h0.sl
  exact ⟨_, _, _, _, _, _, rfl⟩

theorem Fn_at {n c : Nat} {w : World} {a : Option Addr} {m : List DFn} (h : RowOf 4 (FnR) w (.slice a n c) m) (i : Nat) (x : DFn) (hx : m[i]? = some x) : ∃ (b o : Nat) (a3 : Option Addr) (c3 : Nat), a = some ⟨b, o, none⟩ ∧ w.cell? ⟨b, o + i * 4, none⟩ = some (.string x.Name) ∧ w.cell? ⟨b, o + i * 4 + 1, none⟩ = some (.int .i64 x.Args) ∧ w.cell? ⟨b, o + i * 4 + 2, none⟩ = some (.int .i64 x.Slots) ∧ w.cell? ⟨b, o + i * 4 + 3, none⟩ = some (.slice a3 x.Ins.length c3) ∧ RowOf 4 InsR w (.slice a3 x.Ins.length c3) x.Ins := by
  obtain ⟨a', c', e, hel⟩ := h
  cases e
  obtain ⟨b, o, vs, h2, h3, h4, v3, rfl, g0⟩ := hel i x hx
  obtain ⟨a3, c3, rfl⟩ := g0.slice
  exact ⟨b, o, a3, c3, h2, h4 0 _ rfl, h4 1 _ rfl, h4 2 _ rfl, h4 3 _ rfl, g0⟩

section
variable {H : Type} {enc : TypeId × Value → H} {W : World} {base : Nat} {spare : Nat → Bool} {held : Bool}

end

end Go.Proofs.Ytgmddookohkhlaa

/- A struct of the laws as data: Code; the law's own measure, copy and comparison of it; how it is read. -/
namespace Go.Proofs.Ytgmddookohkhlaa
open Go.RowKit Go.ChangeShapes Go.WideShapes Go.Joins Go.Deep
set_option linter.unusedVariables false

structure DCode (d : Nat) where
  Fns : List DFn
  Pats : List (Tm d)


def CodeR (d : Nat) (w : World) (vs : List Value) (x : DCode d) : Prop := ∃ v0 v1, vs = [v0, v1] ∧ RowOf 4 FnR w v0 x.Fns ∧ RowOf 4 (PatR d) w v1 x.Pats

def WfCode (d : Nat) (x : DCode d) : Prop := WfRow WfFn x.Fns ∧ WfRow (WfPat d) x.Pats

def szCodeD (d : Nat) (x : DCode d) : Nat := szRow szFnD x.Fns + (szRow (szPatD d) x.Pats)

def ShCode (vs : List Value) : Prop := ∃ (a0 : Option Addr) (l0 c0 : Nat) (a1 : Option Addr) (l1 c1 : Nat), vs = [.slice a0 l0 c0, .slice a1 l1 c1]

theorem CodeR.lasts (d : Nat) : Lasts (CodeR d) := by
  rintro w w' vs x ⟨v0, v1, rfl, h0, h1⟩ hb
  exact ⟨v0, v1, rfl, (h0.later FnR.lasts hb), (h1.later (PatR.lasts d) hb)⟩

theorem CodeR.shape (d : Nat) : ∀ w vs x, CodeR d w vs x → ShCode vs := by
  rintro w vs x ⟨v0, v1, rfl, h0, h1⟩
  obtain ⟨q0a0, q0l0, q0c0, rfl⟩ := h0.sl
  obtain ⟨q1a1, q1l1, q1c1, rfl⟩ := h1.sl
  exact ⟨_, _, _, _, _, _, rfl⟩

section
variable {H : Type} {enc : TypeId × Value → H} {W : World} {base : Nat} {spare : Nat → Bool} {held : Bool}

end

end Go.Proofs.Ytgmddookohkhlaa
