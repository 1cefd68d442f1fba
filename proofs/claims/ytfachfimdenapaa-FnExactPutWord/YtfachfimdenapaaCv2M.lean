/- Terms with more storeys than they need: owned, walked through, few, small. -/
import Derived.Test.YtfachfimdenapaaConvM
import Derived.Test.YtfachfimdenapaaCpM
namespace Go.Proofs.Ytfachfimdenapaa
open Go.RowKit
set_option linter.unusedVariables false

theorem depL_le_d : ∀ (d : Nat) (ts : List (Tm d)), depL d ts ≤ d
  | 0, _ => Nat.le_refl _
  | d + 1, ts => depL_le.2 fun t _ => by have := depL_le_d d t.L; omega

theorem conv_at {d e : Nat} {ts : List (Tm (d + 1))} {i : Nat} {t : Tm (e + 1)} (h : (conv (d + 1) (e + 1) ts)[i]? = some t) : ∃ u, ts[i]? = some u ∧ t = mkU u.K u.N u.S (conv d e u.L) := by
  change (ts.map fun t => mkU t.K t.N t.S (conv d e t.L))[i]? = some t at h
  rw [List.getElem?_map] at h
  cases hu : ts[i]? with
  | none => rw [hu] at h; cases h
  | some u =>
    rw [hu] at h
    exact ⟨u, rfl, by simpa using h.symm⟩

theorem conv_zero (e : Nat) (ts : List (Tm 0)) : conv 0 e ts = [] := by simp [conv]

theorem conv_own : ∀ (d e : Nat) (ts : List (Tm d)), d ≤ e → ∀ w v fp, OwnL d w v ts fp → OwnL e w v (conv d e ts) fp := by
  intro d
  induction d with
  | zero =>
    rintro e ts _ w v fp ⟨⟨a, c, rfl⟩, rfl⟩
    rw [conv_zero]
    cases e with
    | zero => exact ⟨⟨a, c, rfl⟩, rfl⟩
    | succ e => exact .inl ⟨rfl, rfl, a, c, rfl⟩
  | succ d ih =>
    intro e ts hd w v fp h
    obtain ⟨e, rfl⟩ : ∃ e', e = e' + 1 := ⟨e - 1, by omega⟩
    have hlen : (conv (d + 1) (e + 1) ts).length = ts.length := (conv_ok (d + 1) (e + 1) ts (by have := depL_le_d (d + 1) ts; omega)).1
    rcases h with ⟨rfl, rfl, a, c, rfl⟩ | ⟨g, c, cur, fps, h1, h2, h3, rfl, h4⟩
    · exact .inl ⟨rfl, rfl, a, c, rfl⟩
    · refine .inr ⟨g, c, cur, fps, by rw [hlen]; exact h1, h2, by rw [hlen]; exact h3, rfl, fun i t ht => ?_⟩
      obtain ⟨u, hu, rfl⟩ := conv_at ht
      obtain ⟨lv, f, q1, q2, q3, q4, q5, q6⟩ := h4 i u hu
      exact ⟨lv, f, q1, q2, q3, q4, q5, ih e u.L (by omega) _ _ _ q6⟩

theorem conv_rdq : ∀ (d e : Nat) (ts : List (Tm d)), d ≤ e → ∀ w v, RdQ d w v ts → RdQ e w v (conv d e ts) := by
  intro d
  induction d with
  | zero =>
    rintro e ts _ w v ⟨a, c, rfl⟩
    rw [conv_zero]
    cases e with
    | zero => exact ⟨a, c, rfl⟩
    | succ e => exact ⟨a, c, rfl, fun i t h => by simp at h⟩
  | succ d ih =>
    intro e ts hd w v h
    obtain ⟨e, rfl⟩ : ∃ e', e = e' + 1 := ⟨e - 1, by omega⟩
    have hlen : (conv (d + 1) (e + 1) ts).length = ts.length := (conv_ok (d + 1) (e + 1) ts (by have := depL_le_d (d + 1) ts; omega)).1
    obtain ⟨a, c, rfl, hel⟩ := h
    refine ⟨a, c, by rw [hlen], fun i t ht => ?_⟩
    obtain ⟨u, hu, rfl⟩ := conv_at ht
    obtain ⟨b, o, lv, q1, q2, q3, q4⟩ := hel i u hu
    exact ⟨b, o, lv, q1, q2, q3, ih e u.L (by omega) _ _ q4⟩

theorem conv_few : ∀ (d e : Nat) (ts : List (Tm d)), d ≤ e → FewL d ts → FewL e (conv d e ts) := by
  intro d
  induction d with
  | zero =>
    intro e ts _ _
    rw [conv_zero]
    cases e with
    | zero => trivial
    | succ e => exact ⟨by simp, fun t h => by simp at h⟩
  | succ d ih =>
    intro e ts hd h
    obtain ⟨e, rfl⟩ : ∃ e', e = e' + 1 := ⟨e - 1, by omega⟩
    have hlen : (conv (d + 1) (e + 1) ts).length = ts.length := (conv_ok (d + 1) (e + 1) ts (by have := depL_le_d (d + 1) ts; omega)).1
    refine ⟨by rw [hlen]; exact h.1, fun t ht => ?_⟩
    obtain ⟨i, hi, e1⟩ := List.mem_iff_getElem.1 ht
    obtain ⟨u, hu, rfl⟩ := conv_at (i := i) (t := t) (by rw [List.getElem?_eq_getElem hi, e1])
    exact ih e u.L (by omega) (h.2 u (List.mem_of_getElem? hu))

/-- A term with more storeys. -/
def cv1 (d e : Nat) (t : Tm (d + 1)) : Tm (e + 1) := mkU t.K t.N t.S (conv d e t.L)

theorem sm_conv : ∀ (d e : Nat) (t : Tm (d + 1)), d ≤ e → SmT (d + 1) t → SmT (e + 1) (cv1 d e t) := by
  intro d
  induction d with
  | zero =>
    intro e t _ h
    obtain ⟨h1, h2, h3, h4⟩ := h
    have hl : t.L = [] := tm0 t.L
    have hc : (cv1 0 e t).L = [] := conv_zero e t.L
    exact ⟨by rw [hc]; rw [hl] at h1; exact h1, h2, by rw [hc]; exact Nat.zero_le _, fun u hu => by rw [hc] at hu; cases hu⟩
  | succ d ih =>
    intro e t hd h
    obtain ⟨e, rfl⟩ : ∃ e', e = e' + 1 := ⟨e - 1, by omega⟩
    obtain ⟨h1, h2, h3, h4⟩ := h
    have hlen : (conv (d + 1) (e + 1) t.L).length = t.L.length := (conv_ok (d + 1) (e + 1) t.L (by have := depL_le_d (d + 1) t.L; omega)).1
    refine ⟨?_, h2, ?_, fun u hu => ?_⟩
    · show Shape t.K t.N t.S (conv (d + 1) (e + 1) t.L).length
      rw [hlen]; exact h1
    · show (conv (d + 1) (e + 1) t.L).length ≤ 3
      rw [hlen]; exact h3
    · change u ∈ conv (d + 1) (e + 1) t.L at hu
      obtain ⟨i, hi, e1⟩ := List.mem_iff_getElem.1 hu
      obtain ⟨u0, hu0, rfl⟩ := conv_at (i := i) (t := u) (by rw [List.getElem?_eq_getElem hi, e1])
      exact ih e u0 (by omega) (h4 u0 (List.mem_of_getElem? hu0))

end Go.Proofs.Ytfachfimdenapaa
