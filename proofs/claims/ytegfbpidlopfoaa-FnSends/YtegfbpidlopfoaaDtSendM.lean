/- A struct of the laws as data: Send; the law's own measure, copy and comparison of it; how it is read. -/
import Derived.Test.YtegfbpidlopfoaaTReadM
import Derived.Test.YtegfbpidlopfoaaXm2M
import Derived.Test.YtegfbpidlopfoaaRowSendM
namespace Go.Proofs.Ytegfbpidlopfoaa
open Go.RowKit Go.ChangeShapes Go.WideShapes Go.Joins Go.Deep
set_option linter.unusedVariables false

structure DSend (d : Nat) where
  To : Tm (d + 1)
  T : Tm (d + 1)


def SendR (d : Nat) (w : World) (vs : List Value) (x : DSend d) : Prop := ∃ v0 v1 v2 v3 v4 v5 v6 v7, vs = [v0, v1, v2, v3, v4, v5, v6, v7] ∧ TmR d w [v0, v1, v2, v3] x.To ∧ TmR d w [v4, v5, v6, v7] x.T

def SendO (d : Nat) (w : World) (vs : List Value) (x : DSend d) (fp : List Nat) : Prop := ∃ v0 v1 v2 v3 v4 v5 v6 v7 f0 f1, vs = [v0, v1, v2, v3, v4, v5, v6, v7] ∧ fp = f0 ++ (f1) ∧ TmO d w [v0, v1, v2, v3] x.To f0 ∧ TmO d w [v4, v5, v6, v7] x.T f1

def WfSend (d : Nat) (x : DSend d) : Prop := WfTm d x.To ∧ WfTm d x.T

def szSendD (d : Nat) (x : DSend d) : Nat := szTm d x.To + (szTm d x.T)

theorem SendR.lasts (d : Nat) : Lasts (SendR d) := by
  rintro w w' vs x ⟨v0, v1, v2, v3, v4, v5, v6, v7, rfl, h0, h1⟩ hb
  exact ⟨v0, v1, v2, v3, v4, v5, v6, v7, rfl, (TmR.lasts d _ _ _ _ h0 hb), (TmR.lasts d _ _ _ _ h1 hb)⟩

theorem SendO.lasts (d : Nat) : LastsO (SendO d) := by
  rintro w w' vs x fp ⟨v0, v1, v2, v3, v4, v5, v6, v7, f0, f1, rfl, rfl, h0, h1⟩ hb
  exact ⟨v0, v1, v2, v3, v4, v5, v6, v7, _, _, rfl, rfl, TmO.lasts d _ _ _ _ _ h0 fun j hj => hb j (List.mem_append_left _ hj), TmO.lasts d _ _ _ _ _ h1 fun j hj => hb j (List.mem_append_right _ (hj))⟩

theorem SendO.reads (d : Nat) : Reads (SendO d) (SendR d) := by
  rintro w vs x fp ⟨v0, v1, v2, v3, v4, v5, v6, v7, f0, f1, rfl, rfl, h0, h1⟩
  exact ⟨v0, v1, v2, v3, v4, v5, v6, v7, rfl, (TmO.reads d _ _ _ _ h0), (TmO.reads d _ _ _ _ h1)⟩

theorem SendR.shape (d : Nat) : ∀ w vs x, SendR d w vs x → ShSend vs := by
  rintro w vs x ⟨v0, v1, v2, v3, v4, v5, v6, v7, rfl, h0, h1⟩
  obtain ⟨q0i0, q0i1, q0s2, q0a3, q0l3, q0c3, esh⟩ := TmR.shape d _ _ _ h0
  cases esh
  obtain ⟨q1i4, q1i5, q1s6, q1a7, q1l7, q1c7, esh⟩ := TmR.shape d _ _ _ h1
  cases esh
  exact ⟨_, _, _, _, _, _, _, _, _, _, _, _, rfl⟩

theorem SendO.shape (d : Nat) : ∀ w vs x fp, SendO d w vs x fp → ShSend vs := fun w vs x fp h => SendR.shape d w vs x (SendO.reads d w vs x fp h)

theorem Send_at {d n c : Nat} {w : World} {a : Option Addr} {m : List (DSend d)} (h : RowOf 8 (SendR d) w (.slice a n c) m) (i : Nat) (x : (DSend d)) (hx : m[i]? = some x) : ∃ (b o : Nat) (i0 : Int) (i1 : Int) (s2 : ByteArray) (a3 : Option Addr) (l3 c3 : Nat) (i4 : Int) (i5 : Int) (s6 : ByteArray) (a7 : Option Addr) (l7 c7 : Nat), a = some ⟨b, o, none⟩ ∧ w.cell? ⟨b, o + i * 8, none⟩ = some (.int .i64 i0) ∧ w.cell? ⟨b, o + i * 8 + 1, none⟩ = some (.int .i64 i1) ∧ w.cell? ⟨b, o + i * 8 + 2, none⟩ = some (.string s2) ∧ w.cell? ⟨b, o + i * 8 + 3, none⟩ = some (.slice a3 l3 c3) ∧ w.cell? ⟨b, o + i * 8 + 4, none⟩ = some (.int .i64 i4) ∧ w.cell? ⟨b, o + i * 8 + 5, none⟩ = some (.int .i64 i5) ∧ w.cell? ⟨b, o + i * 8 + 6, none⟩ = some (.string s6) ∧ w.cell? ⟨b, o + i * 8 + 7, none⟩ = some (.slice a7 l7 c7) ∧ TmR d w [.int .i64 i0, .int .i64 i1, .string s2, .slice a3 l3 c3] x.To ∧ TmR d w [.int .i64 i4, .int .i64 i5, .string s6, .slice a7 l7 c7] x.T := by
  obtain ⟨a', c', e, hel⟩ := h
  cases e
  obtain ⟨b, o, vs, h2, h3, h4, v0, v1, v2, v3, v4, v5, v6, v7, rfl, g0, g1⟩ := hel i x hx
  obtain ⟨i0, i1, s2, a3, l3, c3, esh⟩ := TmR.shape d _ _ _ g0
  cases esh
  obtain ⟨i4, i5, s6, a7, l7, c7, esh⟩ := TmR.shape d _ _ _ g1
  cases esh
  exact ⟨b, o, i0, i1, s2, a3, l3, c3, i4, i5, s6, a7, l7, c7, h2, h4 0 _ rfl, h4 1 _ rfl, h4 2 _ rfl, h4 3 _ rfl, h4 4 _ rfl, h4 5 _ rfl, h4 6 _ rfl, h4 7 _ rfl, g0, g1⟩

section
variable {H : Type} {enc : TypeId × Value → H} {W : World} {base : Nat} {spare : Nat → Bool} {held : Bool}

end

end Go.Proofs.Ytegfbpidlopfoaa
