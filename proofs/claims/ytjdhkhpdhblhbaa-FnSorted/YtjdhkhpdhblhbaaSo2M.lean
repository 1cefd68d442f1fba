/- Two neighbours of a row of terms change their places. -/
import Derived.Test.YtjdhkhpdhblhbaaOrdM
import Derived.Test.YtjdhkhpdhblhbaaRowM
import Derived.Test.YtjdhkhpdhblhbaaMarkTM
namespace Go.Proofs.Ytjdhkhpdhblhbaa
open Go.RowKit
set_option linter.unusedVariables false

theorem flat_swp {fps : List (List Nat)} {j : Nat} {f1 f2 : List Nat} (h1 : fps[j]? = some f1) (h2 : fps[j + 1]? = some f2) : (swp fps j).flatten.Perm fps.flatten := by
  rw [swp_eq h1 h2]
  conv => rhs; rw [← List.take_append_drop j fps, drop_two h1 h2]
  rw [List.flatten_append, List.flatten_append, List.flatten_cons, List.flatten_cons, List.flatten_cons, List.flatten_cons]
  exact List.Perm.append_left _ (List.perm_append_comm_assoc ..)

/-- The cells of a term. -/
def tcells {d : Nat} (t : Tm (d + 1)) (lv : Value) : List Value := [.int .i64 t.K, .int .i64 t.N, .string t.S, lv]

/-- A term of a row: its cells. -/
def TermAt {d : Nat} (w : World) (g i : Nat) (t : Tm (d + 1)) (lv : Value) : Prop :=
  (w.cell? ⟨g, i * 4, none⟩ = some (.int .i64 t.K) ∧ w.cell? ⟨g, i * 4 + 1, none⟩ = some (.int .i64 t.N) ∧ w.cell? ⟨g, i * 4 + 2, none⟩ = some (.string t.S) ∧ w.cell? ⟨g, i * 4 + 3, none⟩ = some lv) ∧
  w.frozen? ⟨g, i * 4, none⟩ = false ∧ w.frozen? ⟨g, i * 4 + 1, none⟩ = false ∧ w.frozen? ⟨g, i * 4 + 2, none⟩ = false ∧ w.frozen? ⟨g, i * 4 + 3, none⟩ = false

theorem own_term {d : Nat} {w : World} {g n c i : Nat} {ts : List (Tm (d + 1))} {fp : List Nat} {t : Tm (d + 1)} (h : OwnL (d + 1) w (.slice (some ⟨g, 0, none⟩) n c) ts fp) (ht : ts[i]? = some t) : ∃ a l c', TermAt w g i t (.slice a l c') ∧ RdL d w (.slice a l c') t.L := by
  rcases h with ⟨rfl, _⟩ | ⟨g', c', cur, fps, h1, h2, h3, rfl, h4⟩
  · simp at ht
  · simp only [Value.slice.injEq, Option.some.injEq, Addr.mk.injEq, and_true] at h1
    obtain ⟨rfl, _⟩ := h1
    obtain ⟨lv, f, e0, e1, e2, e3, e4, e5⟩ := h4 i t ht
    obtain ⟨a, l, c2, rfl⟩ := e5.rd.shape
    have hc := fun o => cell_of_row w g o cur 29 (0, 0) h2
    exact ⟨a, l, c2, ⟨⟨by rw [hc]; exact e1, by rw [hc]; exact e2, by rw [hc]; exact e3, by rw [hc]; exact e4⟩, frozen_of_row w _ _ _ _ h2, frozen_of_row w _ _ _ _ h2, frozen_of_row w _ _ _ _ h2, frozen_of_row w _ _ _ _ h2⟩, e5.rd⟩

theorem own_swap {d : Nat} {w : World} {g n c j : Nat} {ts : List (Tm (d + 1))} {fp : List Nat} {x y : Tm (d + 1)} {lx ly : Value} (h : OwnL (d + 1) w (.slice (some ⟨g, 0, none⟩) n c) ts fp) (hnd : fp.Nodup) (hx : ts[j]? = some x) (hy : ts[j + 1]? = some y) (hlx : TermAt w g j x lx) (hly : TermAt w g (j + 1) y ly) :
    ∃ fp', OwnL (d + 1) (setL (setL w g ((j + 1) * 4) (tcells x lx)) g (j * 4) (tcells y ly)) (.slice (some ⟨g, 0, none⟩) n c) (swp ts j) fp' ∧ fp'.Perm fp ∧ g ∈ fp := by
  rcases h with ⟨rfl, _⟩ | ⟨g', c', cur, fps, h1, h2, h3, rfl, h4⟩
  · simp at hx
  · simp only [Value.slice.injEq, Option.some.injEq, Addr.mk.injEq, and_true] at h1
    obtain ⟨rfl, rfl, rfl⟩ := h1
    obtain ⟨lx', f1, p0, p1, p2, p3, p4, p5⟩ := h4 j x hx
    obtain ⟨ly', f2, q0, q1, q2, q3, q4, q5⟩ := h4 (j + 1) y hy
    have hc := fun o => cell_of_row w g o cur 29 (0, 0) h2
    have ex : lx' = lx := by have := hlx.1.2.2.2; rw [hc, p4] at this; exact Option.some.inj this
    have ey : ly' = ly := by have := hly.1.2.2.2; rw [hc, q4] at this; exact Option.some.inj this
    subst ex ey
    have hs2 : (j + 1) * 4 + 3 < cur.size := (Array.getElem?_eq_some_iff.1 q4).1
    have hrow := setL_row (tcells y ly') (setL w g ((j + 1) * 4) (tcells x lx')) g (j * 4) _ _ (setL_row (tcells x lx') w g ((j + 1) * 4) cur _ h2)
    have hoth : ∀ b, b ≠ g → (setL (setL w g ((j + 1) * 4) (tcells x lx')) g (j * 4) (tcells y ly')).heap[b]? = w.heap[b]? := fun b hb => by rw [setL_other _ _ _ _ _ hb, setL_other _ _ _ _ _ hb]
    have hl4 : ∀ (t : Tm (d + 1)) (lv : Value), (tcells t lv).length = 4 := fun _ _ => rfl
    have hkeep : ∀ (i : Nat) (lv : Value) (t : Tm (d + 1)) (f : List Nat), fps[i]? = some f → OwnL d w lv t.L f → OwnL d (setL (setL w g ((j + 1) * 4) (tcells x lx')) g (j * 4) (tcells y ly')) lv t.L f := fun i lv t f hf ho => ho.frame fun b hb => hoth b fun e => (List.nodup_cons.1 hnd).1 (List.mem_flatten.2 ⟨f, List.mem_of_getElem? hf, e ▸ hb⟩)
    refine ⟨g :: (swp fps j).flatten, .inr ⟨g, c, _, swp fps j, by rw [swp_len hx hy], hrow, by rw [swp_len p0 q0, swp_len hx hy]; exact h3, rfl, fun i t ht => ?_⟩, List.Perm.cons _ (flat_swp p0 q0), List.mem_cons_self ..⟩
    rw [swp_at hx hy] at ht
    by_cases hi : i = j
    · subst hi
      rw [if_pos rfl] at ht
      cases ht
      have hat := fun k u hu => putL_at (tcells y ly') (putL cur ((i + 1) * 4) (tcells x lx')) (i * 4) k u (by rw [putL_size, hl4]; omega) hu
      exact ⟨ly', f2, by rw [swp_at p0 q0, if_pos rfl], hat 0 _ rfl, hat 1 _ rfl, hat 2 _ rfl, hat 3 _ rfl, hkeep (i + 1) ly' y f2 q0 q5⟩
    · rw [if_neg hi] at ht
      by_cases hi2 : i = j + 1
      · subst hi2
        rw [if_pos rfl] at ht
        cases ht
        have hat := fun k u hu (hk : k < 4) => (putL_other (tcells y ly') (putL cur ((j + 1) * 4) (tcells x lx')) (j * 4) ((j + 1) * 4 + k) (by rw [hl4]; omega)).trans (putL_at (tcells x lx') cur ((j + 1) * 4) k u (by rw [hl4]; omega) hu)
        exact ⟨lx', f1, by rw [swp_at p0 q0, if_neg (by omega), if_pos rfl], hat 0 _ rfl (by omega), hat 1 _ rfl (by omega), hat 2 _ rfl (by omega), hat 3 _ rfl (by omega), hkeep j lx' x f1 p0 p5⟩
      · rw [if_neg hi2] at ht
        obtain ⟨lv, f, e0, e1, e2, e3, e4, e5⟩ := h4 i t ht
        have hat : ∀ k, k < 4 → (putL (putL cur ((j + 1) * 4) (tcells x lx')) (j * 4) (tcells y ly'))[i * 4 + k]? = cur[i * 4 + k]? := fun k hk => by
          rw [putL_other _ _ _ _ (by rw [hl4]; omega), putL_other _ _ _ _ (by rw [hl4]; omega)]
        exact ⟨lv, f, by rw [swp_at p0 q0, if_neg hi, if_neg hi2]; exact e0, (hat 0 (by omega)).trans e1, (hat 1 (by omega)).trans e2, (hat 2 (by omega)).trans e3, (hat 3 (by omega)).trans e4, hkeep i lv t f e0 e5⟩

end Go.Proofs.Ytjdhkhpdhblhbaa
