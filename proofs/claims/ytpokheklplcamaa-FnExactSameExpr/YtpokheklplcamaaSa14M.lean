/- The program's SameExpr: the lists that are to come, one by one. -/
import Derived.Test.YtpokheklplcamaaSa13M
namespace Go.Proofs.Ytpokheklplcamaa
open Go.RowKit
set_option linter.unusedVariables false

/-- The last is taken off. -/
theorem Sw.popped {W wr : World} {p met nu g n c : Nat} {pv uv : Value} {f : Addr → Int → Option Value} {fs : List Tf} {fr : Tf} {K : List (Nat × Obj)} (h : Sw W wr p met nu pv uv (.slice (some ⟨g, 0, none⟩) n c) f (fr :: fs) K) : Sw W (wr.setCell ⟨p, 3, none⟩ (.slice (some ⟨g, 0, none⟩) fs.length c)) p met nu pv uv (.slice (some ⟨g, 0, none⟩) fs.length c) f fs K := by
  have hk := h.kept
  have hpl := h.plt
  obtain ⟨ys, hup⟩ := h.up
  have htd := h.todo
  have hh := heap_setCell_same wr p 3 _ 93 (.slice (some ⟨g, 0, none⟩) fs.length c) h.row
  have hoth : ∀ j, j ≠ p → (wr.setCell ⟨p, 3, none⟩ (.slice (some ⟨g, 0, none⟩) fs.length c)).heap[j]? = wr.heap[j]? := fun j hne => heap_setCell_other _ _ _ _ (by simpa using hne)
  have hgo : (Value.slice (some ⟨g, 0, none⟩) n c).ownBlock = some g := rfl
  have hgw := own_blk htd g hgo
  obtain ⟨s1, s2, s3, s4⟩ := set_rest wr p 3 (.slice (some ⟨g, 0, none⟩) fs.length c)
  refine ⟨⟨s1.trans hk.os, s2.trans hk.tape, s3.trans hk.output, Nat.le_trans hk.size s4, fun j hj hpq => (hoth j (by omega)).trans (hk.block j hj hpq)⟩, hpl, hh.trans (by simp), h.map.kept (p := p) (fun M f hs hM => hoth M (by omega)) h.keys (fun j hj hne => hoth j hne), ⟨ys, rowKept hup fun j hn => hoth j (by have := (own_blk hup j hn).1; omega)⟩, ?_, h.keys, fun q hq => ⟨(hoth _ (h.ext q hq).2.1).trans (h.ext q hq).1, (h.ext q hq).2.1, (h.ext q hq).2.2.1, (h.ext q hq).2.2.2.1, (h.ext q hq).2.2.2.2⟩⟩
  obtain ⟨hl, hr⟩ := htd
  refine ⟨tcells_len fs, .inr ?_⟩
  rcases hr with ⟨e, _⟩ | ⟨g', cap, cur, e', q1, q2, q3, q4, q5, q6⟩
  · cases e
  · simp only [Value.slice.injEq, Option.some.injEq, Addr.mk.injEq, and_true] at e'
    obtain ⟨rfl, e2, rfl⟩ := e'
    simp only [List.length_cons] at q3 q4 q5 q6 e2
    refine ⟨g, c, cur, rfl, q1, (hoth g (by omega)).trans q2, by omega, q4, q5, ?_⟩
    rw [tcells_cons] at q6
    have := congrArg (List.take (fs.length * 4)) q6
    rw [List.take_take, Nat.min_eq_left (by omega), List.take_append_of_le_length (by rw [tcells_len]; exact Nat.le_refl _), ← tcells_len, List.take_length] at this
    rw [tcells_len] at this
    exact this

/-- .. and where it stands. -/
theorem Sw.top {W wr : World} {p met nu : Nat} {pv uv tv : Value} {f : Addr → Int → Option Value} {fs : List Tf} {fr : Tf} {K : List (Nat × Obj)} (h : Sw W wr p met nu pv uv tv f (fr :: fs) K) : ∃ g c, tv = .slice (some ⟨g, 0, none⟩) (fs.length + 1) c ∧ W.heap.size ≤ g ∧ fs.length + 1 ≤ c ∧
    wr.cell? ⟨g, fs.length * 4, none⟩ = some fr.1 ∧ wr.cell? ⟨g, fs.length * 4 + 1, none⟩ = some fr.2.1 ∧ wr.cell? ⟨g, fs.length * 4 + 2, none⟩ = some fr.2.2.1 ∧ wr.cell? ⟨g, fs.length * 4 + 3, none⟩ = some fr.2.2.2 := by
  obtain ⟨hl, hr⟩ := h.todo
  rcases hr with ⟨_, e⟩ | ⟨g, c, cur, e, q1, q2, q3, q4, q5, q6⟩
  · simp at e
  · rw [tcells_cons] at q6
    have hc : ∀ (i : Nat) (u : Value), [fr.1, fr.2.1, fr.2.2.1, fr.2.2.2][i]? = some u → wr.cell? ⟨g, fs.length * 4 + i, none⟩ = some u := fun i u hi => by
      have hi4 : i < 4 := by have := (List.getElem?_eq_some_iff.1 hi).1; simpa using this
      rw [cell_of_row wr _ _ _ _ _ q2]
      have h1 := congrArg (fun l : List Value => l[fs.length * 4 + i]?) q6
      rw [List.getElem?_append_right (by rw [tcells_len]; omega), tcells_len, Nat.add_sub_cancel_left, hi, List.getElem?_take_of_lt (by simp only [List.length_cons]; omega)] at h1
      rw [← Array.getElem?_toList]
      exact h1
    exact ⟨g, c, e, q1, by simpa using q3, hc 0 _ rfl, hc 1 _ rfl, hc 2 _ rfl, hc 3 _ rfl⟩
theorem Sw.done {W wr : World} {p met nu : Nat} {pv uv tv : Value} {f : Addr → Int → Option Value} {K : List (Nat × Obj)} (h : Sw W wr p met nu pv uv tv f [] K) : ∃ a c, tv = .slice a 0 c := by
  obtain ⟨hl, hr⟩ := h.todo
  rcases hr with ⟨e, _⟩ | ⟨g, c, cur, e, _⟩
  · exact ⟨_, _, e⟩
  · exact ⟨_, _, e⟩

theorem Lg.pop {W : World} {p met nu : Nat} {f : Addr → Int → Option Value} {fs : List Tf} {fr : Tf} {R : Nat} {Q : Prop} (h : Lg W p met nu f (fr :: fs) [] 0 R Q) : ∃ rem R1 Q1 R2 Q2, TF W fr rem R1 Q1 ∧ Lg W p met nu f fs rem (R1 - 1) R2 Q2 ∧ R = R1 + R2 ∧ (Q ↔ Q1 ∧ Q2) := by
  obtain ⟨rs, ⟨r1, R1, Q1, r2, R2, Q2, h1, h1', rfl, rfl, h1q⟩, h2, h3, h4, h5, h6⟩ := h
  have := h1.pos
  exact ⟨r1, R1, Q1, R2, Q2, h1, ⟨r2, h1', h2, by omega, fun g => by simpa using h4 g, fun g hg => h5 g (by simpa using hg), fun x n v hv => by simpa using h6 x n v hv⟩, rfl, h1q⟩

/-- Two lists of whatever kind. -/
theorem lists_any (W w : World) (p : Nat) (fr : Tf) (rem : List Nat) (R1 : Nat) (Q1 : Prop) (hT : TF W fr rem R1 Q1) (R2 : Nat) (Q2 : Prop) (met nu : Nat) (pv uv tv : Value) (f : Addr → Int → Option Value) (fs : List Tf) (K : List (Nat × Obj)) (hS : Sw W w p met nu pv uv tv f fs K) (hL : Lg W p met nu f fs rem (R1 - 1) R2 Q2) (hrow : ∃ o, W.heap[p]? = some (.cells o 93 (0, 0))) :
    Calls Try.prog 54 #[.pointer (some ⟨p, 0, none⟩), .agg #[fr.1, fr.2.1, fr.2.2.1, fr.2.2.2]] w fun e w' => ∃ r : Bool, e = .returned (.bool r) ∧ Hid ((r = true ∧ ∃ tv' fs' R' Q', St W w' p tv' fs' [] 0 R' Q' K ∧ R' < R1 + R2 ∧ (Q' ↔ Q1 ∧ Q2)) ∨ (r = false ∧ ¬ Q1 ∧ Kept p (p + 1) W w')) := by
  obtain ⟨v1, v2, v3, v4⟩ := fr
  obtain ⟨o, hrow⟩ := hrow
  have hneE : ∀ (g : Nat) (cur : Array Value), W.heap[g]? = some (.cells cur 27 (0, 0)) → g ≠ p := fun g cur h e => by
    subst e; rw [hrow] at h; simp only [Option.some.injEq, Obj.cells.injEq] at h; exact absurd h.2.1 (by decide)
  have hneC : ∀ (g : Nat) (cur : Array Value), W.heap[g]? = some (.cells cur 33 (0, 0)) → g ≠ p := fun g cur h e => by
    subst e; rw [hrow] at h; simp only [Option.some.injEq, Obj.cells.injEq] at h; exact absurd h.2.1 (by decide)
  obtain ⟨d, ⟨⟨xs, ys, f1, f2, o1, o2, hl, h0, z1, z2, hrem, hR, hQ⟩, e3, e4⟩ | ⟨⟨xs, ys, f1, f2, o1, o2, hl, h0, z1, z2, hrem, hR, hQ⟩, e3, e4⟩⟩ := hT
  · rcases o1 with ⟨e, _⟩ | ⟨ga, ca, cu, fps, q1, q2, q3, q4, q5⟩
    · rw [e] at h0; cases h0
    rcases o2 with ⟨e, _⟩ | ⟨gb, cb, cv, gps, r1, r2, r3, r4, r5⟩
    · rw [hl, e] at h0; cases h0
    simp only [] at q1 r1 e3 e4
    subst q1 r1 e3 e4
    rw [← hl]
    have hn : xs.length ≤ szRow (szX d) xs := Nat.le_add_right _ _
    have hLs : LsAt (wkS d) W p xs ys fps gps R2 Q2 K 0 w := ⟨met, nu, pv, uv, tv, f, fs, R2, Q2, hS, by rw [hrem, q4, r4, hR, Nat.add_sub_cancel_left] at hL; exact hL, Nat.le_refl _, by simp⟩
    refine (listsP d W w p xs ys ga gb ca cb cu cv fps gps q2 r2 (hneE _ _ q2) (hneE _ _ r2) hl.symm (by omega) z1 z2 q5 r5 R2 Q2 K hLs).mono ?_
    rintro e w' ⟨r, rfl, HP⟩
    refine ⟨r, rfl, ?_⟩
    rcases HP.out with ⟨t1, met', nu', pv', uv', tv', f', fs', R', Q', t2, t3, t4, t5⟩ | ⟨t1, t2, t3⟩
    · refine .inl ⟨t1, tv', fs', R', Q', ⟨met', nu', pv', uv', f', t2, t3.less (Nat.zero_le _) (fun g => by simp)⟩, by omega, ?_⟩
      rw [t5, hQ, List.take_length, hl, List.take_length]
    · exact .inr ⟨t1, fun q => t2 (hQ.1 q), t3⟩
  · rcases o1 with ⟨e, _⟩ | ⟨ga, ca, cu, fps, q1, q2, q3, q4, q5⟩
    · rw [e] at h0; cases h0
    rcases o2 with ⟨e, _⟩ | ⟨gb, cb, cv, gps, r1, r2, r3, r4, r5⟩
    · rw [hl, e] at h0; cases h0
    simp only [] at q1 r1 e3 e4
    subst q1 r1 e3 e4
    rw [← hl]
    have hn : xs.length ≤ szRow (ClF (szX d)) xs := Nat.le_add_right _ _
    have hLs : LsAt (ClF (wkS d)) W p xs ys fps gps R2 Q2 K 0 w := ⟨met, nu, pv, uv, tv, f, fs, R2, Q2, hS, by rw [hrem, q4, r4, hR, Nat.add_sub_cancel_left] at hL; exact hL, Nat.le_refl _, by simp⟩
    refine (listsC d W w p xs ys ga gb ca cb cu cv fps gps q2 r2 (hneC _ _ q2) (hneC _ _ r2) hl.symm (by omega) z1 z2 q5 r5 R2 Q2 K hLs).mono ?_
    rintro e w' ⟨r, rfl, HP⟩
    refine ⟨r, rfl, ?_⟩
    rcases HP.out with ⟨t1, met', nu', pv', uv', tv', f', fs', R', Q', t2, t3, t4, t5⟩ | ⟨t1, t2, t3⟩
    · refine .inl ⟨t1, tv', fs', R', Q', ⟨met', nu', pv', uv', f', t2, t3.less (Nat.zero_le _) (fun g => by simp)⟩, by omega, ?_⟩
      rw [t5, hQ, List.take_length, hl, List.take_length]
    · exact .inr ⟨t1, fun q => t2 (hQ.1 q), t3⟩

/-- How the loop stands. -/
def SI (W : World) (p : Nat) (EQ : Prop) (s : Value) (wr : World) (R : Nat) : Prop :=
  (s = .bool true ∧ ∃ tv fs Q, St W wr p tv fs [] 0 R Q [] ∧ (Q ↔ EQ)) ∨ (s = .bool false ∧ R = 0 ∧ ¬ EQ ∧ Kept p (p + 1) W wr)

end Go.Proofs.Ytpokheklplcamaa
