/- A struct of the laws as data: Ins; the law's own measure, copy and comparison of it; how it is read. -/
import Derived.Test.YtgmddookohkhlaaDt0M
import Derived.Test.YtgmddookohkhlaaOkM
import Derived.Test.YtgmddookohkhlaaRowInsM
namespace Go.Proofs.Ytgmddookohkhlaa
open Go.RowKit Go.ChangeShapes Go.WideShapes Go.Joins Go.Deep
set_option linter.unusedVariables false

structure DIns where
  Op : Int
  N : Int
  S : ByteArray
  To : Int


def InsR (w : World) (vs : List Value) (x : DIns) : Prop := vs = [.int .i64 x.Op, .int .i64 x.N, .string x.S, .int .i64 x.To]

def InsO (w : World) (vs : List Value) (x : DIns) (fp : List Nat) : Prop := vs = [.int .i64 x.Op, .int .i64 x.N, .string x.S, .int .i64 x.To] ∧ fp = []

def WfIns (x : DIns) : Prop := I64 x.Op ∧ I64 x.N ∧ x.S.size ≤ maxLen ∧ I64 x.To

def szInsD (x : DIns) : Nat := x.S.size

theorem InsR.lasts : Lasts (InsR) := by
  rintro w w' vs x rfl hb
  exact rfl

theorem InsO.lasts : LastsO (InsO) := by
  rintro w w' vs x fp ⟨rfl, rfl⟩ hb
  exact ⟨rfl, rfl⟩

theorem InsO.reads : Reads (InsO) (InsR) := by
  rintro w vs x fp ⟨rfl, rfl⟩
  exact rfl

theorem InsR.shape : ∀ w vs x, InsR w vs x → ShIns vs := by
  rintro w vs x rfl
  exact ⟨_, _, _, _, rfl⟩

theorem InsO.shape : ∀ w vs x fp, InsO w vs x fp → ShIns vs := fun w vs x fp h => InsR.shape w vs x (InsO.reads w vs x fp h)

theorem Ins_at {n c : Nat} {w : World} {a : Option Addr} {m : List DIns} (h : RowOf 4 (InsR) w (.slice a n c) m) (i : Nat) (x : DIns) (hx : m[i]? = some x) : ∃ (b o : Nat) , a = some ⟨b, o, none⟩ ∧ w.cell? ⟨b, o + i * 4, none⟩ = some (.int .i64 x.Op) ∧ w.cell? ⟨b, o + i * 4 + 1, none⟩ = some (.int .i64 x.N) ∧ w.cell? ⟨b, o + i * 4 + 2, none⟩ = some (.string x.S) ∧ w.cell? ⟨b, o + i * 4 + 3, none⟩ = some (.int .i64 x.To) := by
  obtain ⟨a', c', e, hel⟩ := h
  cases e
  obtain ⟨b, o, vs, h2, h3, h4, rfl⟩ := hel i x hx
  exact ⟨b, o, h2, h4 0 _ rfl, h4 1 _ rfl, h4 2 _ rfl, h4 3 _ rfl⟩

section
variable {H : Type} {enc : TypeId × Value → H} {W : World} {base : Nat} {spare : Nat → Bool} {held : Bool}

end

end Go.Proofs.Ytgmddookohkhlaa
