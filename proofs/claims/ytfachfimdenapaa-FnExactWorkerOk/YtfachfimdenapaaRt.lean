/- A term that is right, and the terms of a list one by one. -/
import Derived.Test.YtfachfimdenapaaDt0
import Derived.Test.YtfachfimdenapaaLo1
import Derived.Test.YtfachfimdenapaaLook
namespace Go.Proofs.Ytfachfimdenapaa
open Go.RowKit
set_option linter.unusedVariables false

/-- A term that is right. -/
def RightT (d : Nat) (t : Tm (d + 1)) : Prop := Right d t.K t.N t.S t.L 8 300
theorem specTm_any (d : Nat) (vs : List Value) (t : Tm (d + 1)) (w : World) (hr : TmR d w vs t) (hw : WfTm d t) :
    Calls Try.prog 25 #[.agg vs.toArray] w fun e w' => ∃ b : Bool, e = .returned (.bool b) ∧ (b = true ↔ RightT d t) ∧ Below w.heap.size w w' := by
  obtain ⟨lv, rfl, h⟩ := hr
  exact specTermOk_any d t.K t.N t.S lv t.L w h hw.2.2.2 (by have := hw.2.2.1; unfold maxLen at this; omega)

theorem terms_at {d : Nat} {w : World} {a : Option Addr} {n c : Nat} {l : List (Tm (d + 1))} (h : RdL (d + 1) w (.slice a n c) l) (i : Nat) (t : Tm (d + 1)) (ht : l[i]? = some t) :
    ∃ b o la ll lc, a = some ⟨b, o, none⟩ ∧ w.cell? ⟨b, o + i * 4, none⟩ = some (.int .i64 t.K) ∧ w.cell? ⟨b, o + i * 4 + 1, none⟩ = some (.int .i64 t.N) ∧ w.cell? ⟨b, o + i * 4 + 2, none⟩ = some (.string t.S) ∧ w.cell? ⟨b, o + i * 4 + 3, none⟩ = some (.slice la ll lc) ∧ TmR d w [.int .i64 t.K, .int .i64 t.N, .string t.S, .slice la ll lc] t := by
  obtain ⟨a', c', e, hel⟩ := h
  cases e
  obtain ⟨b, o, lv, h1, ⟨q0, q1, q2, q3⟩, h2⟩ := hel i t ht
  obtain ⟨la, ll, lc, rfl⟩ := h2.shape
  exact ⟨b, o, la, ll, lc, h1, q0, q1, q2, q3, _, rfl, h2⟩

theorem wf_term {d : Nat} {l : List (Tm (d + 1))} (h : WfL (d + 1) l) {i : Nat} {t : Tm (d + 1)} (ht : l[i]? = some t) : WfTm d t := h.2 t (List.mem_of_getElem? ht)

theorem len_max {s : ByteArray} (h : s.size ≤ maxLen) : s.size ≤ 9223372036854775807 := by unfold maxLen at h; omega

end Go.Proofs.Ytfachfimdenapaa
