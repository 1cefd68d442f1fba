/- A struct of the laws as data: Frame; the law's own measure, copy and comparison of it; how it is read. -/
import Derived.Test.YtgmddookohkhlaaDt0M
import Derived.Test.YtgmddookohkhlaaOkM
import Derived.Test.YtgmddookohkhlaaRowFrameM
namespace Go.Proofs.Ytgmddookohkhlaa
open Go.RowKit Go.ChangeShapes Go.WideShapes Go.Joins Go.Deep
set_option linter.unusedVariables false

structure DFrame (d : Nat) where
  F : Int
  Pc : Int
  Slots : List (Tm (d + 1))


def FrameR (d : Nat) (w : World) (vs : List Value) (x : DFrame d) : Prop := ∃ v2, vs = [.int .i64 x.F, .int .i64 x.Pc, v2] ∧ RdL (d + 1) w v2 x.Slots

def FrameO (d : Nat) (w : World) (vs : List Value) (x : DFrame d) (fp : List Nat) : Prop := ∃ v2 f0, vs = [.int .i64 x.F, .int .i64 x.Pc, v2] ∧ fp = f0 ∧ OwnL (d + 1) w v2 x.Slots f0

def WfFrame (d : Nat) (x : DFrame d) : Prop := I64 x.F ∧ I64 x.Pc ∧ WfL (d + 1) x.Slots

def szFrameD (d : Nat) (x : DFrame d) : Nat := szL (d + 1) x.Slots

theorem FrameR.lasts (d : Nat) : Lasts (FrameR d) := by
  rintro w w' vs x ⟨v2, rfl, h0⟩ hb
  exact ⟨v2, rfl, (h0.later hb)⟩

theorem FrameO.lasts (d : Nat) : LastsO (FrameO d) := by
  rintro w w' vs x fp ⟨v2, f0, rfl, rfl, h0⟩ hb
  exact ⟨v2, _, rfl, rfl, h0.frame fun j hj => hb j hj⟩

theorem FrameO.reads (d : Nat) : Reads (FrameO d) (FrameR d) := by
  rintro w vs x fp ⟨v2, f0, rfl, rfl, h0⟩
  exact ⟨v2, rfl, h0.rd⟩

theorem FrameR.shape (d : Nat) : ∀ w vs x, FrameR d w vs x → ShFrame vs := by
  rintro w vs x ⟨v2, rfl, h0⟩
  obtain ⟨q0a2, q0l2, q0c2, rfl⟩ := h0.shape
  exact ⟨_, _, _, _, _, rfl⟩

theorem FrameO.shape (d : Nat) : ∀ w vs x fp, FrameO d w vs x fp → ShFrame vs := fun w vs x fp h => FrameR.shape d w vs x (FrameO.reads d w vs x fp h)

theorem Frame_at {d n c : Nat} {w : World} {a : Option Addr} {m : List (DFrame d)} (h : RowOf 3 (FrameR d) w (.slice a n c) m) (i : Nat) (x : (DFrame d)) (hx : m[i]? = some x) : ∃ (b o : Nat) (a2 : Option Addr) (c2 : Nat), a = some ⟨b, o, none⟩ ∧ w.cell? ⟨b, o + i * 3, none⟩ = some (.int .i64 x.F) ∧ w.cell? ⟨b, o + i * 3 + 1, none⟩ = some (.int .i64 x.Pc) ∧ w.cell? ⟨b, o + i * 3 + 2, none⟩ = some (.slice a2 x.Slots.length c2) ∧ RdL (d + 1) w (.slice a2 x.Slots.length c2) x.Slots := by
  obtain ⟨a', c', e, hel⟩ := h
  cases e
  obtain ⟨b, o, vs, h2, h3, h4, v2, rfl, g0⟩ := hel i x hx
  obtain ⟨a2, c2, rfl⟩ := RdL.len1 g0
  exact ⟨b, o, a2, c2, h2, h4 0 _ rfl, h4 1 _ rfl, h4 2 _ rfl, g0⟩

section
variable {H : Type} {enc : TypeId × Value → H} {W : World} {base : Nat} {spare : Nat → Bool} {held : Bool}

end

end Go.Proofs.Ytgmddookohkhlaa

/- A struct of the laws as data: Vm; the law's own measure, copy and comparison of it; how it is read. -/
namespace Go.Proofs.Ytgmddookohkhlaa
open Go.RowKit Go.ChangeShapes Go.WideShapes Go.Joins Go.Deep
set_option linter.unusedVariables false

structure DVm (d : Nat) where
  Frames : List (DFrame d)
  Stack : List (Tm (d + 1))


def VmR (d : Nat) (w : World) (vs : List Value) (x : DVm d) : Prop := ∃ v0 v1, vs = [v0, v1] ∧ RowOf 3 (FrameR d) w v0 x.Frames ∧ RdL (d + 1) w v1 x.Stack

def WfVm (d : Nat) (x : DVm d) : Prop := WfRow (WfFrame d) x.Frames ∧ WfL (d + 1) x.Stack

def szVmD (d : Nat) (x : DVm d) : Nat := szRow (szFrameD d) x.Frames + (szL (d + 1) x.Stack)

def ShVm (vs : List Value) : Prop := ∃ (a0 : Option Addr) (l0 c0 : Nat) (a1 : Option Addr) (l1 c1 : Nat), vs = [.slice a0 l0 c0, .slice a1 l1 c1]

theorem VmR.lasts (d : Nat) : Lasts (VmR d) := by
  rintro w w' vs x ⟨v0, v1, rfl, h0, h1⟩ hb
  exact ⟨v0, v1, rfl, (h0.later (FrameR.lasts d) hb), (h1.later hb)⟩

theorem VmR.shape (d : Nat) : ∀ w vs x, VmR d w vs x → ShVm vs := by
  rintro w vs x ⟨v0, v1, rfl, h0, h1⟩
  obtain ⟨q0a0, q0l0, q0c0, rfl⟩ := h0.sl
  obtain ⟨q1a1, q1l1, q1c1, rfl⟩ := h1.shape
  exact ⟨_, _, _, _, _, _, rfl⟩

section
variable {H : Type} {enc : TypeId × Value → H} {W : World} {base : Nat} {spare : Nat → Bool} {held : Bool}

end

end Go.Proofs.Ytgmddookohkhlaa
