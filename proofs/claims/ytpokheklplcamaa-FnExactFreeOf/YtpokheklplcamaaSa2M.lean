/- The program's SameExpr: what its walk keeps in memory. -/
import Derived.Test.YtpokheklplcamaaXk3M
import Derived.Test.YtpokheklplcamaaQTailM
import Derived.Test.YtpokheklplcamaaNm0M
import Derived.Deep.DeepCutAuto
import Derived.BigQuiet
import Derived.Deep.RegionWith
namespace Go.Proofs.Ytpokheklplcamaa
open Go.RowKit
set_option linter.unusedVariables false

abbrev Tf := Value × Value × Value × Value
def tcells (fs : List Tf) : List Value := (fs.reverse.map fun f => [f.1, f.2.1, f.2.2.1, f.2.2.2]).flatten
theorem tcells_cons (f : Tf) (fs : List Tf) : tcells (f :: fs) = tcells fs ++ [f.1, f.2.1, f.2.2.1, f.2.2.2] := by unfold tcells; simp
theorem tcells_len (fs : List Tf) : (tcells fs).length = fs.length * 4 := by
  induction fs with
  | nil => rfl
  | cons f fs ih => rw [tcells_cons, List.length_append, ih]; simp only [List.length_cons, List.length_nil]; omega

theorem rows_apart {w : World} {B t1 z1 n1 t2 z2 n2 : Nat} {v1 v2 : Value} {xs1 xs2 : List Value} (h1 : w.ownsRow B t1 z1 v1 n1 xs1) (h2 : w.ownsRow B t2 z2 v2 n2 xs2) (ht : t1 ≠ t2) : ∀ g, v1.ownBlock = some g → v2.ownBlock ≠ some g := fun g e1 e2 => by
  rcases h1.2 with ⟨e, _⟩ | ⟨g1, c1, cur1, e, _, q1, _⟩
  · rw [e] at e1; cases e1
  · rw [e] at e1
    obtain rfl : g1 = g := by simpa [Value.ownBlock] using e1
    rcases h2.2 with ⟨e', _⟩ | ⟨g2, c2, cur2, e', _, q2, _⟩
    · rw [e'] at e2; cases e2
    · rw [e'] at e2
      obtain rfl : g2 = g1 := by simpa [Value.ownBlock] using e2
      rw [q1] at q2
      simp only [Option.some.injEq, Obj.cells.injEq] at q2
      exact ht q2.2.1
theorem row_not_map {w : World} {B t z n M : Nat} {v : Value} {xs : List Value} {f : Addr → Int → Option Value} (h : w.ownsRow B t z v n xs) (hm : SMap w M f) : ∀ g, v.ownBlock = some g → M ≠ g := fun g e1 e => by
  subst e
  obtain ⟨es, cl, l, q, _⟩ := hm
  rcases h.2 with ⟨e, _⟩ | ⟨g1, c1, cur1, e, _, q1, _⟩
  · rw [e] at e1; cases e1
  · rw [e] at e1
    obtain rfl : g1 = M := by simpa [Value.ownBlock] using e1
    rw [q1] at q
    cases q

theorem set_rest (w : World) (g i : Nat) (v : Value) : (w.setCell ⟨g, i, none⟩ v).os = w.os ∧ (w.setCell ⟨g, i, none⟩ v).tape = w.tape ∧ (w.setCell ⟨g, i, none⟩ v).output = w.output ∧ w.heap.size ≤ (w.setCell ⟨g, i, none⟩ v).heap.size := by
  have h := (Below.refl g w).setCell (p := ⟨g, i, none⟩) (Nat.le_refl g) v
  exact ⟨h.os, h.tape, h.output, h.size⟩

/-- The map of places, if there is one yet. -/
def MapAt (W wr : World) (pv : Value) (f : Addr → Int → Option Value) : Prop := (pv = .map none ∧ ∀ x n, f x n = none) ∨ ∃ M, pv = .map (some M) ∧ W.heap.size ≤ M ∧ SMap wr M f

/-- What lies in memory. -/
structure Sw (W wr : World) (p met nu : Nat) (pv uv tv : Value) (f : Addr → Int → Option Value) (fs : List Tf) (K : List (Nat × Obj)) : Prop where
  kept : Kept p (p + 1) W wr
  plt : p < W.heap.size
  row : wr.heap[p]? = some (.cells #[.int .i64 (met : Nat), pv, uv, tv] 93 (0, 0))
  map : MapAt W wr pv f
  up : ∃ xs, wr.ownsRow W.heap.size 3 1 uv nu xs
  todo : wr.ownsRow W.heap.size 96 4 tv fs.length (tcells fs)
  keys : ∀ x n v, f x n = some v → x.block < W.heap.size ∧ x.block ≠ p
  ext : ∀ q ∈ K, wr.heap[q.1]? = some q.2 ∧ q.1 ≠ p ∧ pv ≠ .map (some q.1) ∧ uv.ownBlock ≠ some q.1 ∧ tv.ownBlock ≠ some q.1

theorem MapAt.kept {W wr w' : World} {p : Nat} {pv : Value} {f : Addr → Int → Option Value} (h : MapAt W wr pv f) (hm : ∀ M f, SMap wr M f → W.heap.size ≤ M → w'.heap[M]? = wr.heap[M]?) (hk : ∀ x n v, f x n = some v → x.block < W.heap.size ∧ x.block ≠ p) (hl : ∀ g, g < W.heap.size → g ≠ p → w'.heap[g]? = wr.heap[g]?) : MapAt W w' pv f := by
  rcases h with h | ⟨M, e, hM, hs⟩
  · exact .inl h
  · exact .inr ⟨M, e, hM, hs.kept (hm M f hs hM) fun x n v hv ⟨c, t, hx⟩ => ⟨c, t, (hl _ (hk x n v hv).1 (hk x n v hv).2).trans hx⟩⟩

/-- Block p is turned, and blocks that none speaks of. -/
theorem Sw.turn {W wr w' : World} {p met nu met' : Nat} {pv uv tv : Value} {f : Addr → Int → Option Value} {fs : List Tf} {K : List (Nat × Obj)} (h : Sw W wr p met nu pv uv tv f fs K) (ho : w'.os = wr.os) (ht : w'.tape = wr.tape) (hou : w'.output = wr.output) (hsz : wr.heap.size ≤ w'.heap.size) (hb : ∀ g, g < wr.heap.size → g ≠ p → w'.heap[g]? = wr.heap[g]?) (hp : w'.heap[p]? = some (.cells #[.int .i64 (met' : Nat), pv, uv, tv] 93 (0, 0))) : Sw W w' p met' nu pv uv tv f fs K := by
  have hk := h.kept
  have hpl := h.plt
  obtain ⟨xs, hup⟩ := h.up
  refine ⟨⟨ho.trans hk.os, ht.trans hk.tape, hou.trans hk.output, Nat.le_trans hk.size hsz, fun g hg hpq => (hb g (Nat.lt_of_lt_of_le hg hk.size) (by omega)).trans (hk.block g hg hpq)⟩, hpl, hp, h.map.kept (p := p) (fun M f hs hM => hb M hs.lt (by omega)) h.keys (fun g hg hne => hb g (Nat.lt_of_lt_of_le hg hk.size) hne), ⟨xs, rowKept hup fun g hg => hb g (own_blk hup g hg).2 (by have := (own_blk hup g hg).1; omega)⟩, rowKept h.todo fun g hg => hb g (own_blk h.todo g hg).2 (by have := (own_blk h.todo g hg).1; omega), h.keys, fun q hq => ⟨(hb _ (lt_row (h.ext q hq).1) (h.ext q hq).2.1).trans (h.ext q hq).1, (h.ext q hq).2⟩⟩

theorem Sw.later {W wr w' : World} {p met nu : Nat} {pv uv tv : Value} {f : Addr → Int → Option Value} {fs : List Tf} {K : List (Nat × Obj)} (h : Sw W wr p met nu pv uv tv f fs K) (hb : Below wr.heap.size wr w') : Sw W w' p met nu pv uv tv f fs K :=
  h.turn hb.os hb.tape hb.output hb.size (fun g hg _ => hb.block g hg) ((hb.block p (Nat.lt_of_lt_of_le h.plt h.kept.size)).trans h.row)

theorem Sw.cells {W wr : World} {p met nu : Nat} {pv uv tv : Value} {f : Addr → Int → Option Value} {fs : List Tf} {K : List (Nat × Obj)} (h : Sw W wr p met nu pv uv tv f fs K) : wr.cell? ⟨p, 0, none⟩ = some (.int .i64 (met : Nat)) ∧ wr.cell? ⟨p, 1, none⟩ = some pv ∧ wr.cell? ⟨p, 2, none⟩ = some uv ∧ wr.cell? ⟨p, 3, none⟩ = some tv ∧ (∀ i, wr.frozen? ⟨p, i, none⟩ = false) := by
  refine ⟨?_, ?_, ?_, ?_, fun i => frozen_of_row wr _ _ _ _ h.row⟩
  · rw [cell_of_row wr _ 0 _ _ _ h.row]; rfl
  · rw [cell_of_row wr _ 1 _ _ _ h.row]; rfl
  · rw [cell_of_row wr _ 2 _ _ _ h.row]; rfl
  · rw [cell_of_row wr _ 3 _ _ _ h.row]; rfl

theorem Sw.at {W wr : World} {p met nu : Nat} {pv uv tv : Value} {f : Addr → Int → Option Value} {fs : List Tf} {K : List (Nat × Obj)} (h : Sw W wr p met nu pv uv tv f fs K) {g : Nat} {o : Obj} (hg : W.heap[g]? = some o) (hp : g ≠ p) : wr.heap[g]? = some o :=
  (h.kept.block g (lt_row hg) (by omega)).trans hg

/-- A new block may be counted on too; and none need be. -/
theorem Sw.keep {W wr : World} {p met nu : Nat} {pv uv tv : Value} {f : Addr → Int → Option Value} {fs : List Tf} {K : List (Nat × Obj)} (h : Sw W wr p met nu pv uv tv f fs K) (o : Obj) {w' : World} (hw : w' = wr.alloc o) (o' : Obj) (ho : w'.heap[wr.heap.size]? = some o') : Sw W w' p met nu pv uv tv f fs ((wr.heap.size, o') :: K) := by
  have h1 : Sw W w' p met nu pv uv tv f fs K := h.later (by rw [hw]; exact (Below.refl _ _).alloc (Nat.le_refl _) _)
  have hpl := Nat.lt_of_lt_of_le h.plt h.kept.size
  obtain ⟨xs, hup⟩ := h.up
  refine ⟨h1.kept, h1.plt, h1.row, h1.map, h1.up, h1.todo, h1.keys, fun q hq => ?_⟩
  rcases List.mem_cons.1 hq with rfl | hq
  · refine ⟨ho, by show wr.heap.size ≠ p; omega, fun e => ?_, fun e => ?_, fun e => ?_⟩
    · rcases h.map with ⟨e', _⟩ | ⟨M, e', _, hs⟩
      · rw [e'] at e; cases e
      · rw [e'] at e
        simp only [Value.map.injEq, Option.some.injEq] at e
        have := hs.lt
        omega
    · have := (own_blk hup _ e).2; simp at this
    · have := (own_blk h.todo _ e).2; simp at this
  · exact h1.ext q hq
theorem Sw.drop {W wr : World} {p met nu : Nat} {pv uv tv : Value} {f : Addr → Int → Option Value} {fs : List Tf} {K K' : List (Nat × Obj)} (h : Sw W wr p met nu pv uv tv f fs K) (hs : ∀ q ∈ K', q ∈ K) : Sw W wr p met nu pv uv tv f fs K' := ⟨h.kept, h.plt, h.row, h.map, h.up, h.todo, h.keys, fun q hq => h.ext q (hs q hq)⟩

/-- One more is met. -/
theorem Sw.meet {W wr : World} {p met nu : Nat} {pv uv tv : Value} {f : Addr → Int → Option Value} {fs : List Tf} {K : List (Nat × Obj)} (h : Sw W wr p met nu pv uv tv f fs K) : Sw W (wr.setCell ⟨p, 0, none⟩ (.int .i64 ((met : Int) + 1))) p (met + 1) nu pv uv tv f fs K := by
  have hh := heap_setCell_same wr p 0 _ 93 (.int .i64 ((met : Int) + 1)) h.row
  obtain ⟨s1, s2, s3, s4⟩ := set_rest wr p 0 (.int .i64 ((met : Int) + 1))
  exact h.turn s1 s2 s3 s4 (fun g hg hne => heap_setCell_other _ _ _ _ (by simpa using hne)) (hh.trans (by simp))

/-- A map is made. -/
theorem Sw.mapMade {W wr : World} {p met nu : Nat} {uv tv : Value} {f : Addr → Int → Option Value} {fs : List Tf} {K : List (Nat × Obj)} (h : Sw W wr p met nu (.map none) uv tv f fs K) : Sw W ((wr.alloc (.map #[] 0)).setCell ⟨p, 1, none⟩ (.map (some wr.heap.size))) p met nu (.map (some wr.heap.size)) uv tv f fs K := by
  have hk := h.kept
  have hpl := h.plt
  have hps : p < wr.heap.size := Nat.lt_of_lt_of_le hpl hk.size
  obtain ⟨xs, hup⟩ := h.up
  have hf : ∀ x n, f x n = none := by
    rcases h.map with ⟨_, e⟩ | ⟨M, e, _⟩
    · exact e
    · cases e
  obtain ⟨V, hV⟩ : ∃ V, V = wr.alloc (.map #[] 0) := ⟨_, rfl⟩
  have hbV : Below wr.heap.size wr V := by rw [hV]; exact (Below.refl _ _).alloc (Nat.le_refl _) _
  have hMV : V.heap[wr.heap.size]? = some (.map #[] 0) := by rw [hV]; exact heap_alloc_new wr _
  have hrV := (hbV.block p hps).trans h.row
  rw [← hV]
  have hh := heap_setCell_same V p 1 _ 93 (.map (some wr.heap.size)) hrV
  have hoth : ∀ g, g ≠ p → (V.setCell ⟨p, 1, none⟩ (.map (some wr.heap.size))).heap[g]? = V.heap[g]? := fun g hne => heap_setCell_other _ _ _ _ (by simpa using hne)
  have hb : ∀ g, g < wr.heap.size → g ≠ p → (V.setCell ⟨p, 1, none⟩ (.map (some wr.heap.size))).heap[g]? = wr.heap[g]? := fun g hg hne => (hoth g hne).trans (hbV.block g hg)
  have hsz : wr.heap.size ≤ V.heap.size := hbV.size
  obtain ⟨s1, s2, s3, s4⟩ := set_rest V p 1 (.map (some wr.heap.size))
  refine ⟨⟨s1.trans (hbV.os.trans hk.os), s2.trans (hbV.tape.trans hk.tape), s3.trans (hbV.output.trans hk.output), Nat.le_trans hk.size (Nat.le_trans hsz s4), fun g hg hpq => (hb g (Nat.lt_of_lt_of_le hg hk.size) (by omega)).trans (hk.block g hg hpq)⟩, hpl, hh.trans (by simp), .inr ⟨_, rfl, hk.size, #[], 0, [], (hoth _ (by omega)).trans hMV, rfl, (fun q (h : q ∈ []) => absurd h List.not_mem_nil), fun x n => (hf x n).symm⟩, ⟨xs, rowKept hup fun g hg => hb g (own_blk hup g hg).2 (by have := (own_blk hup g hg).1; omega)⟩, rowKept h.todo fun g hg => hb g (own_blk h.todo g hg).2 (by have := (own_blk h.todo g hg).1; omega), h.keys, fun q hq => ⟨(hb _ (lt_row (h.ext q hq).1) (h.ext q hq).2.1).trans (h.ext q hq).1, (h.ext q hq).2.1, fun e => ?_, (h.ext q hq).2.2.2⟩⟩
  have := lt_row (h.ext q hq).1
  simp only [Value.map.injEq, Option.some.injEq] at e
  omega

/-- A place is kept. -/
theorem Sw.mapStored {W wr w6 : World} {p met nu M : Nat} {uv tv : Value} {f f' : Addr → Int → Option Value} {fs : List Tf} {K : List (Nat × Obj)} (h : Sw W wr p met nu (.map (some M)) uv tv f fs K) (hT : wr.mapTurned w6 M) (hS : SMap w6 M f') (hkf : ∀ x n v, f' x n = some v → x.block < W.heap.size ∧ x.block ≠ p) : Sw W w6 p met nu (.map (some M)) uv tv f' fs K := by
  have hg := hT.grown
  have hk := h.kept
  have hpl := h.plt
  obtain ⟨xs, hup⟩ := h.up
  obtain ⟨hM, hs⟩ : W.heap.size ≤ M ∧ SMap wr M f := by
    rcases h.map with ⟨e, _⟩ | ⟨M', e, hM, hs⟩
    · cases e
    · simp only [Value.map.injEq, Option.some.injEq] at e; subst e; exact ⟨hM, hs⟩
  have n1 := row_not_map hup hs
  have n2 := row_not_map h.todo hs
  exact ⟨⟨hg.os.trans hk.os, hg.tape.trans hk.tape, hg.output.trans hk.output, Nat.le_trans hk.size hg.size, fun g hg' hpq => (hg.block g (Nat.lt_of_lt_of_le hg' hk.size) (by simp; omega)).trans (hk.block g hg' hpq)⟩, hpl, (hg.block p (Nat.lt_of_lt_of_le hpl hk.size) (by simp; omega)).trans h.row, .inr ⟨M, rfl, hM, hS⟩, ⟨xs, rowKept hup fun g hn => hg.block g (own_blk hup g hn).2 (by have := n1 g hn; simp; omega)⟩, rowKept h.todo fun g hn => hg.block g (own_blk h.todo g hn).2 (by have := n2 g hn; simp; omega), hkf, fun q hq => ⟨(hg.block _ (lt_row (h.ext q hq).1) (fun e => (h.ext q hq).2.2.1 (by rw [e]))).trans (h.ext q hq).1, (h.ext q hq).2⟩⟩

/-- A number more. -/
theorem Sw.grew {W wr w2 : World} {p met nu : Nat} {pv uv tv v' : Value} {f : Addr → Int → Option Value} {fs : List Tf} {K : List (Nat × Obj)} (h : Sw W wr p met nu pv uv tv f fs K) {xs : List Value} (hown : w2.ownsRow W.heap.size 3 1 v' (nu + 1) xs) (hg : wr.grownBy w2 uv.ownBlock) (hat : v'.ownBlock = uv.ownBlock ∨ v'.ownBlock = some wr.heap.size) : Sw W (w2.setCell ⟨p, 2, none⟩ v') p met (nu + 1) pv v' tv f fs K := by
  have hk := h.kept
  have hpl := h.plt
  obtain ⟨ys, hup⟩ := h.up
  have hpu : ∀ g, uv.ownBlock = some g → W.heap.size ≤ g := fun g e => (own_blk hup g e).1
  have hr2 := (hg.block p (Nat.lt_of_lt_of_le hpl hk.size) (fun e => by have := hpu p e.symm; omega)).trans h.row
  have hh := heap_setCell_same w2 p 2 _ 93 v' hr2
  have hoth : ∀ g, g ≠ p → (w2.setCell ⟨p, 2, none⟩ v').heap[g]? = w2.heap[g]? := fun g hne => heap_setCell_other _ _ _ _ (by simpa using hne)
  have hlow : ∀ g, g < W.heap.size → g ≠ p → (w2.setCell ⟨p, 2, none⟩ v').heap[g]? = wr.heap[g]? := fun g hg' hne => (hoth g hne).trans (hg.block g (Nat.lt_of_lt_of_le hg' hk.size) (fun e => by have := hpu g e.symm; omega))
  have hsz : wr.heap.size ≤ w2.heap.size := hg.size
  have hap := rows_apart h.todo hup (by decide)
  obtain ⟨s1, s2, s3, s4⟩ := set_rest w2 p 2 v'
  refine ⟨⟨s1.trans (hg.os.trans hk.os), s2.trans (hg.tape.trans hk.tape), s3.trans (hg.output.trans hk.output), Nat.le_trans hk.size (Nat.le_trans hsz s4), fun g hg' hpq => (hlow g hg' (by omega)).trans (hk.block g hg' hpq)⟩, hpl, hh.trans (by simp), h.map.kept (p := p) (fun M f hs hM => (hoth M (by omega)).trans (hg.block M hs.lt fun e => row_not_map hup hs M e.symm rfl)) h.keys hlow, ⟨xs, rowKept hown fun g hn => hoth g (by have := (own_blk hown g hn).1; omega)⟩, rowKept h.todo fun g hn => (hoth g (by have := (own_blk h.todo g hn).1; omega)).trans (hg.block g (own_blk h.todo g hn).2 fun e => hap g hn e.symm), h.keys, fun q hq => ⟨(hoth _ (h.ext q hq).2.1).trans ((hg.block _ (lt_row (h.ext q hq).1) (fun e => (h.ext q hq).2.2.2.1 e.symm)).trans (h.ext q hq).1), (h.ext q hq).2.1, (h.ext q hq).2.2.1, fun e => ?_, (h.ext q hq).2.2.2.2⟩⟩
  have := lt_row (h.ext q hq).1
  rcases hat with h' | h'
  · exact (h.ext q hq).2.2.2.1 (h'.symm.trans e)
  · rw [h'] at e; simp only [Option.some.injEq] at e; omega

/-- A list of pairs more. -/
theorem Sw.pushed {W wr w2 : World} {p met nu : Nat} {pv uv tv v' : Value} {f : Addr → Int → Option Value} {fs : List Tf} {K : List (Nat × Obj)} {fr : Tf} (h : Sw W wr p met nu pv uv tv f fs K) (hown : w2.ownsRow W.heap.size 96 4 v' (fs.length + 1) (tcells fs ++ [fr.1, fr.2.1, fr.2.2.1, fr.2.2.2])) (hg : wr.grownBy w2 tv.ownBlock) (hat : v'.ownBlock = tv.ownBlock ∨ v'.ownBlock = some wr.heap.size) : Sw W (w2.setCell ⟨p, 3, none⟩ v') p met nu pv uv v' f (fr :: fs) K := by
  have hk := h.kept
  have hpl := h.plt
  obtain ⟨ys, hup⟩ := h.up
  have htd := h.todo
  have hpu : ∀ g, tv.ownBlock = some g → W.heap.size ≤ g := fun g e => (own_blk htd g e).1
  have hr2 := (hg.block p (Nat.lt_of_lt_of_le hpl hk.size) (fun e => by have := hpu p e.symm; omega)).trans h.row
  have hh := heap_setCell_same w2 p 3 _ 93 v' hr2
  have hoth : ∀ g, g ≠ p → (w2.setCell ⟨p, 3, none⟩ v').heap[g]? = w2.heap[g]? := fun g hne => heap_setCell_other _ _ _ _ (by simpa using hne)
  have hlow : ∀ g, g < W.heap.size → g ≠ p → (w2.setCell ⟨p, 3, none⟩ v').heap[g]? = wr.heap[g]? := fun g hg' hne => (hoth g hne).trans (hg.block g (Nat.lt_of_lt_of_le hg' hk.size) (fun e => by have := hpu g e.symm; omega))
  have hsz : wr.heap.size ≤ w2.heap.size := hg.size
  have hap := rows_apart hup htd (by decide)
  obtain ⟨s1, s2, s3, s4⟩ := set_rest w2 p 3 v'
  refine ⟨⟨s1.trans (hg.os.trans hk.os), s2.trans (hg.tape.trans hk.tape), s3.trans (hg.output.trans hk.output), Nat.le_trans hk.size (Nat.le_trans hsz s4), fun g hg' hpq => (hlow g hg' (by omega)).trans (hk.block g hg' hpq)⟩, hpl, hh.trans (by simp), h.map.kept (p := p) (fun M f hs hM => (hoth M (by omega)).trans (hg.block M hs.lt fun e => row_not_map htd hs M e.symm rfl)) h.keys hlow, ⟨ys, rowKept hup fun g hn => (hoth g (by have := (own_blk hup g hn).1; omega)).trans (hg.block g (own_blk hup g hn).2 fun e => hap g hn e.symm)⟩, ?_, h.keys, fun q hq => ⟨(hoth _ (h.ext q hq).2.1).trans ((hg.block _ (lt_row (h.ext q hq).1) (fun e => (h.ext q hq).2.2.2.2 e.symm)).trans (h.ext q hq).1), (h.ext q hq).2.1, (h.ext q hq).2.2.1, (h.ext q hq).2.2.2.1, fun e => ?_⟩⟩
  · rw [tcells_cons]
    exact rowKept hown fun g hn => hoth g (by have := (own_blk hown g hn).1; omega)
  · have := lt_row (h.ext q hq).1
    rcases hat with h' | h'
    · exact (h.ext q hq).2.2.2.2 (h'.symm.trans e)
    · rw [h'] at e; simp only [Option.some.injEq] at e; omega

/-- A number is set. -/
theorem Sw.numSet {W wr : World} {p met nu : Nat} {pv uv tv : Value} {f : Addr → Int → Option Value} {fs : List Tf} {K : List (Nat × Obj)} (h : Sw W wr p met nu pv uv tv f fs K) {g c i : Nat} (e : uv = .slice (some ⟨g, 0, none⟩) nu c) (hi : i < nu) (x : Int) : Sw W (wr.setCell ⟨g, i, none⟩ (.int .i64 x)) p met nu pv uv tv f fs K := by
  have hk := h.kept
  have hpl := h.plt
  obtain ⟨ys, hup⟩ := h.up
  have hgo : uv.ownBlock = some g := by rw [e]; rfl
  have hgw := (own_blk hup g hgo).1
  have hoth : ∀ j, j ≠ g → (wr.setCell ⟨g, i, none⟩ (.int .i64 x)).heap[j]? = wr.heap[j]? := fun j hne => heap_setCell_other _ _ _ _ (by simpa using hne)
  have hap := rows_apart h.todo hup (by decide)
  have hlow : ∀ j, j < W.heap.size → j ≠ p → (wr.setCell ⟨g, i, none⟩ (.int .i64 x)).heap[j]? = wr.heap[j]? := fun j hj _ => hoth j (by omega)
  obtain ⟨s1, s2, s3, s4⟩ := set_rest wr g i (.int .i64 x)
  refine ⟨⟨s1.trans hk.os, s2.trans hk.tape, s3.trans hk.output, Nat.le_trans hk.size s4, fun j hj hpq => (hlow j hj (by omega)).trans (hk.block j hj hpq)⟩, hpl, (hoth p (by omega)).trans h.row, h.map.kept (p := p) (fun M f hs hM => hoth M (row_not_map hup hs g hgo)) h.keys hlow, ?_, rowKept h.todo fun j hj => hoth j (fun e => hap j hj (by rw [e]; exact hgo)), h.keys, fun q hq => ⟨(hoth _ (fun e => (h.ext q hq).2.2.2.1 (by rw [e]; exact hgo))).trans (h.ext q hq).1, (h.ext q hq).2⟩⟩
  rcases hup.2 with ⟨e', _⟩ | ⟨g', cap, cur, e', q1, q2, q3, q4, q5, q6⟩
  · rw [e] at e'; cases e'
  · rw [e] at e'
    simp only [Value.slice.injEq, Option.some.injEq, Addr.mk.injEq, and_true, true_and] at e'
    obtain ⟨rfl, rfl⟩ := e'
    refine ⟨(cur.setIfInBounds i (.int .i64 x)).toList.take (nu * 1), ?_, .inr ⟨g, c, _, e, q1, heap_setCell_same wr g i cur 3 _ q2, q3, q4, by simpa using q5, rfl⟩⟩
    simp
    omega

end Go.Proofs.Ytpokheklplcamaa

/- The program's likes: two lists that were never met. -/
namespace Go.Proofs.Ytpokheklplcamaa
open Go.RowKit
set_option linter.unusedVariables false

theorem Try.infoInt : (Try.prog.info? 3).map (fun i => (i.zero, i.size, i.bytes)) = some (some (.int .i64 0), 1, 8) := by kernel_rfl

theorem look_drewN {P : Program} {t k e : TypeId} (S : SpotTy P k) (ht : P.underlying t = some (.map k e)) {w : World} {b : Nat} {f : Addr → Int → Option Value} (h : SMap w b f) {x : Addr} {n : Int} (hx : Plain w x) {z : Value} (hz : ∀ V, (zeroValue e).run P V = .ok z V) (hf : f x n = none) (q : Nat) :
    (Instr.lookup t (.map (some b)) (.agg #[.pointer (some x), .int .i64 n]) true).run P (w.drewN q) = .ok (.tuple #[z, .bool false]) (w.drewN q) := by
  have hb : Below w.heap.size w (w.drewN q) := below_drewN (Below.refl _ _) _
  have hs : SMap (w.drewN q) b f := h.kept (hb.block b h.lt) fun y m v _ ⟨c, t, hy⟩ => ⟨c, t, (hb.block _ (lt_row hy)).trans hy⟩
  have hx' : Plain (w.drewN q) x := by
    obtain ⟨c, t, hy⟩ := hx
    exact ⟨c, t, (hb.block _ (lt_row hy)).trans hy⟩
  have := hs.look S ht (n := n) hx' (hz _)
  rw [hf] at this
  exact this

theorem Sw.rowUp {W wr w2 : World} {p met nu : Nat} {pv uv tv : Value} {f : Addr → Int → Option Value} {fs : List Tf} {K : List (Nat × Obj)} (h : Sw W wr p met nu pv uv tv f fs K) (hg : wr.grownBy w2 uv.ownBlock) : w2.heap[p]? = some (.cells #[.int .i64 (met : Nat), pv, uv, tv] 93 (0, 0)) := by
  obtain ⟨ys, hup⟩ := h.up
  have hpl := h.plt
  exact (hg.block p (Nat.lt_of_lt_of_le hpl h.kept.size) (fun e => by have := (own_blk hup p e.symm).1; omega)).trans h.row
theorem Sw.rowTo {W wr w2 : World} {p met nu : Nat} {pv uv tv : Value} {f : Addr → Int → Option Value} {fs : List Tf} {K : List (Nat × Obj)} (h : Sw W wr p met nu pv uv tv f fs K) (hg : wr.grownBy w2 tv.ownBlock) : w2.heap[p]? = some (.cells #[.int .i64 (met : Nat), pv, uv, tv] 93 (0, 0)) := by
  have hpl := h.plt
  exact (hg.block p (Nat.lt_of_lt_of_le hpl h.kept.size) (fun e => by have := (own_blk h.todo p e.symm).1; omega)).trans h.row

/-- The last of a row that has just grown. -/
theorem row_last {w : World} {B t n : Nat} {v x : Value} {xs : List Value} (h : w.ownsRow B t 1 v (n + 1) (xs ++ [x])) : ∃ g c cur, v = .slice (some ⟨g, 0, none⟩) (n + 1) c ∧ B ≤ g ∧ w.heap[g]? = some (.cells cur t (0, 0)) ∧ cur[n]? = some x := by
  have hl : xs.length = n := by have := h.1; simp at this; omega
  rcases h.2 with ⟨_, e⟩ | ⟨g, c, cur, e1, e2, e3, e4, e5, e6, e7⟩
  · omega
  · refine ⟨g, c, cur, e1, e2, e3, ?_⟩
    have h1 : (cur.toList.take ((n + 1) * 1))[n]? = some x := by rw [e7, List.getElem?_append_right (by omega), hl]; simp
    rw [List.getElem?_take_of_lt (by omega)] at h1
    simpa using h1

theorem mapEq (x : Option Nat) (V : World) (d : Nat) : (Op.equalIn (d + 1) 87 (.map x) (.map none)).run Try.prog V = .ok x.isNone V := by
  rw [Op.equalIn]
  cases x <;> simp [run_underlying Try.underlying87]
theorem mapNil (x : Option Nat) (V : World) : (binOp BinOp.eql 87 (.map x) (.map none)).run Try.prog V = .ok (.bool x.isNone) V := by
  have h := mapEq x V 9999
  have h' : (Op.equalIn Op.maxDepth 87 (.map x) (.map none)).run Try.prog V = .ok x.isNone V := h
  simp [binOp, Op.equal, h', Result.andThen]

set_option maxRecDepth 100000 in
set_option maxHeartbeats 2000000 in
theorem headX_new {W wr : World} {p met nu : Nat} {pv uv tv : Value} {f : Addr → Int → Option Value} {fs : List Tf} {K : List (Nat × Obj)} (h : Sw W wr p met nu pv uv tv f fs K) (g l : Nat) (cur : Array Value) (t : TypeId) (hg : W.heap[g]? = some (.cells cur t (0, 0))) (hgp : g ≠ p) (hf : f ⟨g, 0, none⟩ l = none) (hnu : nu ≤ 67108864) :
    Calls Try.prog 104 #[.pointer (some ⟨p, 0, none⟩), .agg #[.pointer (some ⟨g, 0, none⟩), .int .i64 l]] wr fun e w' => e = .returned (.int .i64 nu) ∧ Hid (∃ pv' uv', Sw W w' p met (nu + 1) pv' uv' tv (upd f ⟨g, 0, none⟩ l (.int .i64 nu)) fs K) := by
  obtain ⟨W1, hW1⟩ : ∃ V, V = wr.alloc (.cells #[.pointer (some ⟨g, 0, none⟩), .int .i64 l] 113) := ⟨_, rfl⟩
  have hb1 : Below wr.heap.size wr W1 := by rw [hW1]; exact (Below.refl _ _).alloc (Nat.le_refl _) _
  have hz1 : W1.heap.size = wr.heap.size + 1 := by rw [hW1]; simp
  have hbox : W1.heap[wr.heap.size]? = some (.cells #[.pointer (some ⟨g, 0, none⟩), .int .i64 l] 113 (0, 0)) := by rw [hW1]; exact heap_alloc_new wr _
  have h1 := h.later hb1
  have hkb : ∀ x n v, upd f ⟨g, 0, none⟩ l (.int .i64 nu) x n = some v → x.block < W.heap.size ∧ x.block ≠ p := fun x n v hv => by
    unfold upd at hv
    by_cases e : x = ⟨g, 0, none⟩ ∧ n = (l : Int)
    · rw [e.1]; exact ⟨lt_row hg, hgp⟩
    · rw [if_neg e] at hv; exact h.keys x n v hv
  have HKB : Hid _ := hkb
  have HG : Hid (W.heap[g]? = some (.cells cur t (0, 0)) ∧ g ≠ p ∧ f ⟨g, 0, none⟩ l = none) := ⟨hg, hgp, hf⟩
  have hps : p < wr.heap.size := Nat.lt_of_lt_of_le h.plt h.kept.size
  have hpW : p < W.heap.size := h.plt
  have HWS : Hid (W.heap.size ≤ wr.heap.size) := h.kept.size
  have hmm := @run_makeMap Try.prog
  have hzs : ∀ V : World, (zeroValue 3).run Try.prog V = .ok (.int .i64 0) V := fun V => Try.zeroValue3 V
  obtain ⟨j0, hj, hj0, hj1, hj2⟩ := info_parts Try.infoInt
  rcases h.map with ⟨rfl, _⟩ | ⟨M, rfl, hM, _⟩
  · have h2 := h1.mapMade
    obtain ⟨X, hX⟩ : ∃ V, V = (W1.alloc (.map #[] 0)).setCell ⟨p, 1, none⟩ (.map (some W1.heap.size)) := ⟨_, rfl⟩
    rw [← hX] at h2
    have hbx : X.heap[wr.heap.size]? = some (.cells #[.pointer (some ⟨g, 0, none⟩), .int .i64 l] 113 (0, 0)) := by
      rw [hX, heap_setCell_other _ _ _ _ (by simp; omega), Below.heap_alloc _ _ _ (by omega)]
      exact hbox
    rw [hz1] at h2 hX
    rw [hW1, World.setCell_alloc_past _ _ _ _ (by simp; omega), World.setCell_alloc_past _ _ _ _ hps] at hX
    obtain ⟨M, hM⟩ : ∃ M, wr.heap.size + 1 = M := ⟨_, rfl⟩
    have HX : Hid (X = _) := hX
    have HM : Hid (wr.heap.size + 1 = M) := hM
    rw [hM] at h2
    obtain ⟨c0, c1, c2, c3, c4⟩ := h.cells
    have c1' : (wr.alloc (.cells #[.pointer (some ⟨g, 0, none⟩), .int .i64 l] 113)).cell? ⟨p, 1, none⟩ = some (.map none) := by rw [← hW1]; exact h1.cells.2.1
    clear hX h1 hW1 hz1 hb1 hbox hkb hg hgp hf hM c0 c2 c3
    have HSW : Hid (Sw W X p met nu _ uv tv f fs K) := h2
    have HBX : Hid _ := hbx
    clear h h2 hbx
    have hq : ∀ V : World, (binOp BinOp.eql 87 (.map none) (.map none)).run Try.prog V = .ok (.bool true) V := fun V => mapNil none V
    go_enter Try.func104, Try.ntmps104
    go_wp2_with fail
    rw [← HX.out, HM.out]
    clear HX c1 c1' c4 hmm hq
    obtain ⟨c0, c1, c2, c3, c4⟩ := HSW.out.cells
    have b0 : X.cell? ⟨wr.heap.size, 0, none⟩ = some (.pointer (some ⟨g, 0, none⟩)) := by rw [cell_of_row X _ 0 _ _ _ HBX.out]; rfl
    have b1 : X.cell? ⟨wr.heap.size, 1, none⟩ = some (.int .i64 l) := by rw [cell_of_row X _ 1 _ _ _ HBX.out]; rfl
    obtain ⟨hMW, hms⟩ : W.heap.size ≤ M ∧ SMap X M f := by
      rcases HSW.out.map with ⟨e, _⟩ | ⟨M', e, hM, hs⟩
      · cases e
      · simp only [Value.map.injEq, Option.some.injEq] at e; subst e; exact ⟨hM, hs⟩
    have hlk := look_drewN spotExpr Try.underlying87 hms (x := ⟨g, 0, none⟩) (n := l) ⟨_, _, HSW.out.at HG.out.1 HG.out.2.1⟩ hzs HG.out.2.2
    clear hms
    go_cut [5, 6] (fun a b wx => a = .int .i64 0 ∧ b = .bool false ∧ Below X.heap.size X wx)
    case first =>
      go_quiet (fail)
      go_wp2_with fail
      go_meet
      case rel => exact ⟨rfl, rfl, below_drewN (Below.refl _ _) _⟩
    case rest =>
      obtain ⟨rfl, rfl, hbc⟩ := hcut
      have HSC : Hid (Sw W wc p met nu (.map (some M)) uv tv f fs K) := HSW.out.later hbc
      have HBC : Hid _ := (hbc.block _ (lt_row HBX.out)).trans HBX.out
      obtain ⟨d0, d1, d2, d3, d4⟩ := HSC.out.cells
      have b0' : wc.cell? ⟨wr.heap.size, 0, none⟩ = some (.pointer (some ⟨g, 0, none⟩)) := by rw [cell_of_row wc _ 0 _ _ _ HBC.out]; rfl
      have b1' : wc.cell? ⟨wr.heap.size, 1, none⟩ = some (.int .i64 l) := by rw [cell_of_row wc _ 1 _ _ _ HBC.out]; rfl
      obtain ⟨xs, hxs⟩ := HSC.out.up
      obtain ⟨ua, uc, rfl⟩ : ∃ ua uc, uv = .slice ua nu uc := by
        rcases hxs.2 with ⟨e, e0⟩ | ⟨g', c', cur', e, _⟩
        · exact ⟨none, 0, by rw [e, e0]⟩
        · exact ⟨_, _, e⟩
      clear hxs xs hlk b0 b1 c0 c1 c2 c3 c4 HBX HSW hbc
      obtain ⟨Y, hY⟩ : ∃ Y, Y = wc := ⟨_, rfl⟩
      rw [← hY] at HSC HBC d0 d1 d2 d3 d4 b0' b1' ⊢
      clear hY
      go_wp2_with fail
      have hn0 := After.some Y
      have q1 := After.cell d1
      have q2 := After.cell b0'
      have q3 := After.cell b1'
      refine wp_region_after_tail 6 (by kernel_rfl) (by kernel_rfl) ?_
      simp only [List.take_succ_cons, List.take_zero, List.drop_succ_cons, List.drop_zero]
      repeat (go_big_quiet_step (fail))
      refine wpQuiet_nil ?_
      rintro _ ⟨nq, rfl⟩
      have HS1 : Hid (Sw W nq.now p met nu (.map (some M)) (.slice ua nu uc) tv f fs K) := HSC.out.later nq.bel
      have hms2 : SMap nq.now M f := by
        rcases HS1.out.map with ⟨e, _⟩ | ⟨M', e, hM, hs⟩
        · cases e
        · simp only [Value.map.injEq, Option.some.injEq] at e; subst e; exact hs
      refine wpList_store_spot _ rfl _ _ _ 87 rfl 113 3 spotExpr Try.underlying87 M f rfl hms2 ⟨g, 0, none⟩ l (.int .i64 nu) rfl rfl ⟨_, _, HS1.out.at HG.out.1 HG.out.2.1⟩ ?_
      intro w6 hS6 hT6
      have HS6 : Hid (Sw W w6 p met nu (.map (some M)) (.slice ua nu uc) tv (upd f ⟨g, 0, none⟩ l (.int .i64 nu)) fs K) := HS1.out.mapStored hT6 hS6 HKB.out
      obtain ⟨xs6, hxs6⟩ := HS6.out.up
      have HROW : Hid (w6.ownsRow W.heap.size 3 1 (.slice ua nu uc) nu xs6) := hxs6
      obtain ⟨e0, e1, e2, e3, e4⟩ := HS6.out.cells
      have hps6 : p < w6.heap.size := Nat.lt_of_lt_of_le hpW HS6.out.kept.size
      have hw6 : W.heap.size ≤ w6.heap.size := HS6.out.kept.size
      clear hms2 hS6 hT6 HS1 q1 q2 q3 hn0 d0 d1 d2 d3 d4 b0' b1' HBC HSC hxs6
      refine wpList_nil ?_
      go_wp2_with (at_builtin; refine wpList_append_own_at _ rfl _ _ 88 rfl W.heap.size 3 j0 (.int .i64 0) 1 8 Try.underlying88 hj hj0 hj1 hj2 rfl (by decide) _ _ _ rfl (HROW.out.alloc _) ⟨w6.heap.size, 0, none⟩ 1 1 [.int .i64 nu] rfl rfl (new_one (.int .i64 nu) 3 rfl) (by intro u hu; simp at hu; subst hu; rfl) (by unfold maxLen; omega) (by omega) (by simp; omega) ?_; intro v' w7 hown7 hgrow7 _ hat7; obtain ⟨gu, cu, cv, rfl, hgu, hl7, hl8⟩ := row_last hown7; have r7 := (HS6.out.later ((Below.refl _ _).alloc (Nat.le_refl _) _)).rowUp hgrow7; have y7 : w7.frozen? ⟨p, 2, none⟩ = false := frozen_of_row w7 _ _ _ _ r7; have y8 : w7.cell? ⟨p, 2, none⟩ = some (.slice ua nu uc) := (by rw [cell_of_row w7 _ 2 _ _ _ r7]; rfl); clear r7)
      have HS7 : Hid (Sw W (w7.setCell ⟨p, 2, none⟩ (.slice (some ⟨gu, 0, none⟩) (nu + 1) cu)) p met (nu + 1) (.map (some M)) (.slice (some ⟨gu, 0, none⟩) (nu + 1) cu) tv (upd f ⟨g, 0, none⟩ l (.int .i64 nu)) fs K) := (HS6.out.later ((Below.refl _ _).alloc (Nat.le_refl _) _)).grew hown7 hgrow7 hat7
      obtain ⟨Z, hZ⟩ : ∃ Z, Z = w7.setCell ⟨p, 2, none⟩ (.slice (some ⟨gu, 0, none⟩) (nu + 1) cu) := ⟨_, rfl⟩
      rw [← hZ] at HS7 ⊢
      have g1 : Z.cell? ⟨gu, nu, none⟩ = some (.int .i64 nu) := by
        have hzg : Z.heap[gu]? = some (.cells cv 3 (0, 0)) := by rw [hZ]; exact (heap_setCell_other _ _ _ _ (by simp; omega)).trans hl7
        rw [cell_of_row Z _ nu _ _ _ hzg]; exact hl8
      obtain ⟨f0, f1, f2, f3, f4⟩ := HS7.out.cells
      clear hown7 hgrow7 hat7 y7 y8 hl7 hl8 hZ e0 e1 e2 e3 e4 HS6 HROW
      go_loopw [5] (fun a wx => Hid (a = .int .i64 nu ∧ wx = Z)) (fun _ _ => 0)
      case atStart => exact ⟨rfl, rfl⟩
      case round =>
        obtain ⟨rfl, rfl⟩ := hrel.out
        go_wp2_with fail
        go_ret
        exact ⟨rfl, _, _, HS7.out⟩
  · have h2 := h1
    obtain ⟨c0, c1, c2, c3, c4⟩ := h1.cells
    have HX : Hid (W1 = _) := hW1
    have HSW : Hid (Sw W W1 p met nu _ uv tv f fs K) := h2
    have HBX : Hid _ := hbox
    rw [hW1] at c1
    clear h1 hz1 hb1 hbox hkb hg hgp hf h h2 c0 c2 c3 c4 hmm hW1 hM
    have hq : ∀ V : World, (binOp BinOp.eql 87 (.map (some M)) (.map none)).run Try.prog V = .ok (.bool false) V := fun V => mapNil (some M) V
    obtain ⟨X, hXW⟩ : ∃ X, X = W1 := ⟨_, rfl⟩
    rw [← hXW] at HX HSW HBX
    clear hXW
    go_enter Try.func104, Try.ntmps104
    go_wp2_with fail
    rw [← HX.out]
    clear HX c1 hq
    obtain ⟨c0, c1, c2, c3, c4⟩ := HSW.out.cells
    have b0 : X.cell? ⟨wr.heap.size, 0, none⟩ = some (.pointer (some ⟨g, 0, none⟩)) := by rw [cell_of_row X _ 0 _ _ _ HBX.out]; rfl
    have b1 : X.cell? ⟨wr.heap.size, 1, none⟩ = some (.int .i64 l) := by rw [cell_of_row X _ 1 _ _ _ HBX.out]; rfl
    obtain ⟨hMW, hms⟩ : W.heap.size ≤ M ∧ SMap X M f := by
      rcases HSW.out.map with ⟨e, _⟩ | ⟨M', e, hM, hs⟩
      · cases e
      · simp only [Value.map.injEq, Option.some.injEq] at e; subst e; exact ⟨hM, hs⟩
    have hlk := look_drewN spotExpr Try.underlying87 hms (x := ⟨g, 0, none⟩) (n := l) ⟨_, _, HSW.out.at HG.out.1 HG.out.2.1⟩ hzs HG.out.2.2
    clear hms
    go_cut [5, 6] (fun a b wx => a = .int .i64 0 ∧ b = .bool false ∧ Below X.heap.size X wx)
    case first =>
      go_quiet (fail)
      go_wp2_with fail
      go_meet
      case rel => exact ⟨rfl, rfl, below_drewN (Below.refl _ _) _⟩
    case rest =>
      obtain ⟨rfl, rfl, hbc⟩ := hcut
      have HSC : Hid (Sw W wc p met nu (.map (some M)) uv tv f fs K) := HSW.out.later hbc
      have HBC : Hid _ := (hbc.block _ (lt_row HBX.out)).trans HBX.out
      obtain ⟨d0, d1, d2, d3, d4⟩ := HSC.out.cells
      have b0' : wc.cell? ⟨wr.heap.size, 0, none⟩ = some (.pointer (some ⟨g, 0, none⟩)) := by rw [cell_of_row wc _ 0 _ _ _ HBC.out]; rfl
      have b1' : wc.cell? ⟨wr.heap.size, 1, none⟩ = some (.int .i64 l) := by rw [cell_of_row wc _ 1 _ _ _ HBC.out]; rfl
      obtain ⟨xs, hxs⟩ := HSC.out.up
      obtain ⟨ua, uc, rfl⟩ : ∃ ua uc, uv = .slice ua nu uc := by
        rcases hxs.2 with ⟨e, e0⟩ | ⟨g', c', cur', e, _⟩
        · exact ⟨none, 0, by rw [e, e0]⟩
        · exact ⟨_, _, e⟩
      clear hxs xs hlk b0 b1 c0 c1 c2 c3 c4 HBX HSW hbc
      obtain ⟨Y, hY⟩ : ∃ Y, Y = wc := ⟨_, rfl⟩
      rw [← hY] at HSC HBC d0 d1 d2 d3 d4 b0' b1' ⊢
      clear hY
      go_wp2_with fail
      have hn0 := After.some Y
      have q1 := After.cell d1
      have q2 := After.cell b0'
      have q3 := After.cell b1'
      refine wp_region_after_tail 6 (by kernel_rfl) (by kernel_rfl) ?_
      simp only [List.take_succ_cons, List.take_zero, List.drop_succ_cons, List.drop_zero]
      repeat (go_big_quiet_step (fail))
      refine wpQuiet_nil ?_
      rintro _ ⟨nq, rfl⟩
      have HS1 : Hid (Sw W nq.now p met nu (.map (some M)) (.slice ua nu uc) tv f fs K) := HSC.out.later nq.bel
      have hms2 : SMap nq.now M f := by
        rcases HS1.out.map with ⟨e, _⟩ | ⟨M', e, hM, hs⟩
        · cases e
        · simp only [Value.map.injEq, Option.some.injEq] at e; subst e; exact hs
      refine wpList_store_spot _ rfl _ _ _ 87 rfl 113 3 spotExpr Try.underlying87 M f rfl hms2 ⟨g, 0, none⟩ l (.int .i64 nu) rfl rfl ⟨_, _, HS1.out.at HG.out.1 HG.out.2.1⟩ ?_
      intro w6 hS6 hT6
      have HS6 : Hid (Sw W w6 p met nu (.map (some M)) (.slice ua nu uc) tv (upd f ⟨g, 0, none⟩ l (.int .i64 nu)) fs K) := HS1.out.mapStored hT6 hS6 HKB.out
      obtain ⟨xs6, hxs6⟩ := HS6.out.up
      have HROW : Hid (w6.ownsRow W.heap.size 3 1 (.slice ua nu uc) nu xs6) := hxs6
      obtain ⟨e0, e1, e2, e3, e4⟩ := HS6.out.cells
      have hps6 : p < w6.heap.size := Nat.lt_of_lt_of_le hpW HS6.out.kept.size
      have hw6 : W.heap.size ≤ w6.heap.size := HS6.out.kept.size
      clear hms2 hS6 hT6 HS1 q1 q2 q3 hn0 d0 d1 d2 d3 d4 b0' b1' HBC HSC hxs6
      refine wpList_nil ?_
      go_wp2_with (at_builtin; refine wpList_append_own_at _ rfl _ _ 88 rfl W.heap.size 3 j0 (.int .i64 0) 1 8 Try.underlying88 hj hj0 hj1 hj2 rfl (by decide) _ _ _ rfl (HROW.out.alloc _) ⟨w6.heap.size, 0, none⟩ 1 1 [.int .i64 nu] rfl rfl (new_one (.int .i64 nu) 3 rfl) (by intro u hu; simp at hu; subst hu; rfl) (by unfold maxLen; omega) (by omega) (by simp; omega) ?_; intro v' w7 hown7 hgrow7 _ hat7; obtain ⟨gu, cu, cv, rfl, hgu, hl7, hl8⟩ := row_last hown7; have r7 := (HS6.out.later ((Below.refl _ _).alloc (Nat.le_refl _) _)).rowUp hgrow7; have y7 : w7.frozen? ⟨p, 2, none⟩ = false := frozen_of_row w7 _ _ _ _ r7; have y8 : w7.cell? ⟨p, 2, none⟩ = some (.slice ua nu uc) := (by rw [cell_of_row w7 _ 2 _ _ _ r7]; rfl); clear r7)
      have HS7 : Hid (Sw W (w7.setCell ⟨p, 2, none⟩ (.slice (some ⟨gu, 0, none⟩) (nu + 1) cu)) p met (nu + 1) (.map (some M)) (.slice (some ⟨gu, 0, none⟩) (nu + 1) cu) tv (upd f ⟨g, 0, none⟩ l (.int .i64 nu)) fs K) := (HS6.out.later ((Below.refl _ _).alloc (Nat.le_refl _) _)).grew hown7 hgrow7 hat7
      obtain ⟨Z, hZ⟩ : ∃ Z, Z = w7.setCell ⟨p, 2, none⟩ (.slice (some ⟨gu, 0, none⟩) (nu + 1) cu) := ⟨_, rfl⟩
      rw [← hZ] at HS7 ⊢
      have g1 : Z.cell? ⟨gu, nu, none⟩ = some (.int .i64 nu) := by
        have hzg : Z.heap[gu]? = some (.cells cv 3 (0, 0)) := by rw [hZ]; exact (heap_setCell_other _ _ _ _ (by simp; omega)).trans hl7
        rw [cell_of_row Z _ nu _ _ _ hzg]; exact hl8
      obtain ⟨f0, f1, f2, f3, f4⟩ := HS7.out.cells
      clear hown7 hgrow7 hat7 y7 y8 hl7 hl8 hZ e0 e1 e2 e3 e4 HS6 HROW
      go_loopw [5] (fun a wx => Hid (a = .int .i64 nu ∧ wx = Z)) (fun _ _ => 0)
      case atStart => exact ⟨rfl, rfl⟩
      case round =>
        obtain ⟨rfl, rfl⟩ := hrel.out
        go_wp2_with fail
        go_ret
        exact ⟨rfl, _, _, HS7.out⟩

end Go.Proofs.Ytpokheklplcamaa

/- The program's likes: two lists that were never met are joined. -/
namespace Go.Proofs.Ytpokheklplcamaa
open Go.RowKit
set_option linter.unusedVariables false

set_option maxRecDepth 100000 in
set_option maxHeartbeats 2000000 in
theorem joinX_new {W wr : World} {p met nu : Nat} {pv uv tv : Value} {f : Addr → Int → Option Value} {fs : List Tf} {K : List (Nat × Obj)} (h : Sw W wr p met nu pv uv tv f fs K) (g l g' l' : Nat) (cur cur' : Array Value) (t t' : TypeId) (hg : W.heap[g]? = some (.cells cur t (0, 0))) (hg' : W.heap[g']? = some (.cells cur' t' (0, 0))) (hgp : g ≠ p) (hgp' : g' ≠ p) (hgg : g ≠ g') (hf : ∀ n, f ⟨g, 0, none⟩ n = none) (hf' : ∀ n, f ⟨g', 0, none⟩ n = none) (hm : met ≤ 16777216) (hnu : nu ≤ 2 * met) :
    Calls Try.prog 81 #[.pointer (some ⟨p, 0, none⟩), .agg #[.pointer (some ⟨g, 0, none⟩), .int .i64 l], .agg #[.pointer (some ⟨g', 0, none⟩), .int .i64 l']] wr fun e w' => e = .returned (.bool false) ∧ Hid (∃ nu' pv' uv' f', Sw W w' p (met + 1) nu' pv' uv' tv f' fs K ∧ nu' ≤ 2 * (met + 1) ∧ ∀ x n v, f' x n = some v → f x n = some v ∨ x.block = g ∨ x.block = g') := by
  obtain ⟨V1, hV1⟩ : ∃ V, V = wr.alloc (.cells #[.pointer (some ⟨g, 0, none⟩), .int .i64 l] 113) := ⟨_, rfl⟩
  have hs1 := h.keep _ hV1 (.cells #[.pointer (some ⟨g, 0, none⟩), .int .i64 l] 113 (0, 0)) (by rw [hV1]; exact heap_alloc_new wr _)
  have hz1 : V1.heap.size = wr.heap.size + 1 := by rw [hV1]; simp
  obtain ⟨V2, hV2⟩ : ∃ V, V = V1.alloc (.cells #[.pointer (some ⟨g', 0, none⟩), .int .i64 l'] 113) := ⟨_, rfl⟩
  have hs2 := hs1.keep _ hV2 (.cells #[.pointer (some ⟨g', 0, none⟩), .int .i64 l'] 113 (0, 0)) (by rw [hV2]; exact heap_alloc_new V1 _)
  rw [hz1] at hs2
  have hs3 := hs2.meet
  obtain ⟨X, hX⟩ : ∃ X, X = V2.setCell ⟨p, 0, none⟩ (.int .i64 ((met : Int) + 1)) := ⟨_, rfl⟩
  rw [← hX] at hs3
  have hps : p < wr.heap.size := Nat.lt_of_lt_of_le h.plt h.kept.size
  have hpW : p < W.heap.size := h.plt
  have hzW : W.heap.size ≤ wr.heap.size := h.kept.size
  rw [hV2, hV1, World.setCell_alloc_past _ _ _ _ (by simp; omega), World.setCell_alloc_past _ _ _ _ hps] at hX
  obtain ⟨c0, c1, c2, c3, c4⟩ := h.cells
  have HX : Hid (X = _) := hX
  have HS : Hid (Sw W X p (met + 1) nu pv uv tv f fs ((wr.heap.size + 1, .cells #[.pointer (some ⟨g', 0, none⟩), .int .i64 l'] 113 (0, 0)) :: (wr.heap.size, .cells #[.pointer (some ⟨g, 0, none⟩), .int .i64 l] 113 (0, 0)) :: K)) := hs3
  clear hs1 hs2 hs3 hV1 hV2 hz1 hX c1 c2 c3 h
  by_cases h3 : met + 1 ≤ 300
  · have h3' : (met : Int) + 1 ≤ 300 := by omega
    go_enter Try.func81, Try.ntmps81
    go_wp2_with fail
    rw [← HX.out]
    go_ret
    exact ⟨rfl, nu, pv, uv, f, HS.out.drop (fun q hq => List.mem_cons_of_mem _ (List.mem_cons_of_mem _ hq)), by omega, fun x n v hv => .inl hv⟩
  · have h3' : decide ((met : Int) + 1 ≤ 300) = false := by simp; omega
    have HH1 : Hid (∀ V : World, Below X.heap.size X V → _) := fun V hV => headX_new (HS.out.later hV) g l cur t hg hgp (hf _) (by omega)
    have HH2 : Hid (∀ (V : World) (pv1 uv1 : Value), Sw W V p (met + 1) (nu + 1) pv1 uv1 tv (upd f ⟨g, 0, none⟩ l (.int .i64 nu)) fs _ → _) := fun V pv1 uv1 hV => headX_new (K := ((wr.heap.size + 1, .cells #[.pointer (some ⟨g', 0, none⟩), .int .i64 l'] 113 (0, 0)) :: (wr.heap.size, .cells #[.pointer (some ⟨g, 0, none⟩), .int .i64 l] 113 (0, 0)) :: K)) hV g' l' cur' t' hg' hgp' (by unfold upd; rw [if_neg]; exact hf' _; intro e; have := congrArg Addr.block e.1; exact hgg this.symm) (by omega)
    have HF2 : Hid (∀ x n v, upd (upd f ⟨g, 0, none⟩ l (.int .i64 nu)) ⟨g', 0, none⟩ l' (.int .i64 (nu + 1 : Nat)) x n = some v → f x n = some v ∨ x.block = g ∨ x.block = g') := fun x n v hv => by
      unfold upd at hv
      by_cases e : x = ⟨g', 0, none⟩ ∧ n = (l' : Int)
      · exact .inr (.inr (by rw [e.1]))
      · rw [if_neg e] at hv
        by_cases e2 : x = ⟨g, 0, none⟩ ∧ n = (l : Int)
        · exact .inr (.inl (by rw [e2.1]))
        · rw [if_neg e2] at hv; exact .inl hv
    have e1 := (HS.out.ext _ (List.mem_cons_self ..)).1
    have e2 := (HS.out.ext _ (List.mem_cons_of_mem _ (List.mem_cons_self ..))).1
    have a0 : X.cell? ⟨wr.heap.size, 0, none⟩ = some (.pointer (some ⟨g, 0, none⟩)) := by rw [cell_of_row X _ 0 _ _ _ e2]; rfl
    have a1 : X.cell? ⟨wr.heap.size, 1, none⟩ = some (.int .i64 l) := by rw [cell_of_row X _ 1 _ _ _ e2]; rfl
    have b0 : X.cell? ⟨wr.heap.size + 1, 0, none⟩ = some (.pointer (some ⟨g', 0, none⟩)) := by rw [cell_of_row X _ 0 _ _ _ e1]; rfl
    have b1 : X.cell? ⟨wr.heap.size + 1, 1, none⟩ = some (.int .i64 l') := by rw [cell_of_row X _ 1 _ _ _ e1]; rfl
    clear e1 e2 hg hg' hf hf'
    go_enter Try.func81, Try.ntmps81
    go_wp2_with fail
    rw [← HX.out]
    clear HX c0 c4 h3 h3'
    go_cut [7, 8] (fun a b wx => a = .int .i64 nu ∧ b = .int .i64 (nu + 1 : Nat) ∧ Hid (∃ pv' uv', Sw W wx p (met + 1) (nu + 1 + 1) pv' uv' tv (upd (upd f ⟨g, 0, none⟩ l (.int .i64 nu)) ⟨g', 0, none⟩ l' (.int .i64 (nu + 1 : Nat))) fs K))
    case first =>
      go_region_with (first
        | (go_at_call 104; (with_reducible refine (HH1.out _ ?_).mono ?_); exact (Below.refl _ _).drew; rintro e w1 ⟨rfl, HQ1⟩; obtain ⟨pv1, uv1, hS1⟩ := HQ1.out; have r1 := (hS1.ext _ (List.mem_cons_self ..)).1; have q0 : w1.cell? ⟨wr.heap.size + 1, 0, none⟩ = some (.pointer (some ⟨g', 0, none⟩)) := (by rw [cell_of_row w1 _ 0 _ _ _ r1]; rfl); have q1 : w1.cell? ⟨wr.heap.size + 1, 1, none⟩ = some (.int .i64 l') := (by rw [cell_of_row w1 _ 1 _ _ _ r1]; rfl))
        | (go_at_call 104; (with_reducible refine (HH2.out _ _ _ hS1).mono ?_); rintro e w2 ⟨rfl, HQ2⟩))
      all_goals
        obtain ⟨pv2, uv2, hS2⟩ := HQ2.out
        have HS2 : Hid _ := hS2.drop (K' := K) (fun q hq => List.mem_cons_of_mem _ (List.mem_cons_of_mem _ hq))
        go_wp2_with fail
        go_meet
        case rel => exact ⟨rfl, rfl, pv2, uv2, HS2.out⟩
    case rest =>
      obtain ⟨rfl, rfl, HQ⟩ := hcut
      obtain ⟨pv2, uv2, hS2⟩ := HQ.out
      obtain ⟨xs, hxs⟩ := hS2.up
      obtain ⟨gu, cu, cv, rfl, hgu, hcv, hle⟩ : ∃ gu cu cv, uv2 = .slice (some ⟨gu, 0, none⟩) (nu + 1 + 1) cu ∧ W.heap.size ≤ gu ∧ wc.heap[gu]? = some (.cells cv 3 (0, 0)) ∧ nu + 1 + 1 ≤ cv.size := by
        rcases hxs.2 with ⟨_, e⟩ | ⟨g1, c1, cur1, e1, e2, e3, e4, e5, e6, e7⟩
        · omega
        · exact ⟨g1, c1, cur1, e1, e2, e3, by omega⟩
      obtain ⟨f0, f1, f2, f3, f4⟩ := hS2.cells
      have y1 : wc.frozen? ⟨gu, nu, none⟩ = false := frozen_of_row wc _ _ _ _ hcv
      obtain ⟨ov, hov⟩ : ∃ ov, cv[nu]? = some ov := ⟨_, Array.getElem?_eq_getElem (by omega)⟩
      have y2 : wc.cell? ⟨gu, nu, none⟩ = some ov := by rw [cell_of_row wc _ nu _ _ _ hcv]; exact hov
      have HS3 : Hid _ := hS2.numSet (g := gu) (c := cu) (i := nu) rfl (by omega) ((nu + 1 : Nat) : Int)
      have hne : ((nu : Int) == ((nu + 1 : Nat) : Int)) = false := by simp; omega
      have hi : (nu : Int) < ((nu + 1 + 1 : Nat) : Int) := by omega
      clear hxs hS2 HQ hcv hov a0 a1 b0 b1
      go_wp2_with fail
      go_ret
      have hne2 : ((nu : Int) == (nu : Int) + 1) = false := by rw [beq_eq_false_iff_ne]; omega
      exact ⟨(by show Ending.returned (Value.bool ((nu : Int) == (nu : Int) + 1)) = _; rw [hne2]), _, _, _, _, HS3.out, by omega, HF2.out⟩

end Go.Proofs.Ytpokheklplcamaa

/- The program's SameExpr: what is told of the lists that are still to be held against each other. -/
namespace Go.Proofs.Ytpokheklplcamaa
open Go.RowKit
set_option linter.unusedVariables false

/-- How much work an expression is. -/
def wkS : (d : Nat) → Ex d → Nat
  | 0, _ => 4
  | d + 1, e => 4 + (e.E.map (wkS d)).sum + (e.C.map (ClF (wkS d))).sum

theorem sum_le {α : Type} {f g : α → Nat} {c : Nat} (h : ∀ x, f x ≤ c + 8 * g x) (hc : c ≤ 8) (xs : List α) : (xs.map f).sum ≤ 8 * szRow g xs := by
  unfold szRow
  induction xs with
  | nil => exact Nat.zero_le _
  | cons x xs ih => simp only [List.map_cons, List.sum_cons, List.length_cons]; have := h x; omega
theorem wkS_le : ∀ (d : Nat) (e : Ex d), wkS d e ≤ 4 + 8 * szX d e := by
  intro d
  induction d with
  | zero => intro e; exact Nat.le_add_right _ _
  | succ d ih =>
    intro e
    have h1 := sum_le (f := wkS d) (g := szX d) ih (by omega) e.E
    have h2 := sum_le (f := ClF (wkS d)) (g := ClF (szX d)) (c := 8) (fun c => by have := ih c.1; have := ih c.2; show wkS d c.1 + wkS d c.2 ≤ 8 + 8 * (szX d c.1 + szX d c.2); omega) (by omega) e.C
    show 4 + (e.E.map (wkS d)).sum + (e.C.map (ClF (wkS d))).sum ≤ 4 + 8 * (e.S.size + szRow (szX d) e.E + szRow (ClF (szX d)) e.C)
    omega

/-- Two lists as long as each other. -/
def TFk {α : Type} (k : Nat) (T : TypeId) (O : World → List Value → α → List Nat → Prop) (sz wk : α → Nat) (W : World) (v v' : Value) (rem : List Nat) (R : Nat) (Q : Prop) : Prop :=
  ∃ xs ys f f', OwnRow k T O W v xs f ∧ OwnRow k T O W v' ys f' ∧ xs.length = ys.length ∧ 0 < xs.length ∧ szRow sz xs ≤ 1048576 ∧ szRow sz ys ≤ 1048576 ∧ rem = f.tail ++ f'.tail ∧ R = 1 + (xs.map wk).sum ∧ (Q ↔ xs = ys)

/-- .. of expressions, or of clauses. -/
def TF (W : World) (fr : Tf) (rem : List Nat) (R : Nat) (Q : Prop) : Prop :=
  ∃ d, (TFk 5 27 (ExO d) (szX d) (wkS d) W fr.1 fr.2.1 rem R Q ∧ fr.2.2.1 = .slice none 0 0 ∧ fr.2.2.2 = .slice none 0 0) ∨ (TFk 10 33 (ClO (ExO d)) (ClF (szX d)) (ClF (wkS d)) W fr.2.2.1 fr.2.2.2 rem R Q ∧ fr.1 = .slice none 0 0 ∧ fr.2.1 = .slice none 0 0)

def TS (W : World) : List Tf → List Nat → Nat → Prop → Prop
  | [], rem, R, Q => rem = [] ∧ R = 0 ∧ Q
  | fr :: rest, rem, R, Q => ∃ r1 R1 Q1 r2 R2 Q2, TF W fr r1 R1 Q1 ∧ TS W rest r2 R2 Q2 ∧ rem = r1 ++ r2 ∧ R = R1 + R2 ∧ (Q ↔ Q1 ∧ Q2)

theorem TF.pos {W : World} {fr : Tf} {rem : List Nat} {R : Nat} {Q : Prop} (h : TF W fr rem R Q) : 0 < R := by
  obtain ⟨d, ⟨⟨xs, ys, f, f', _, _, _, _, _, _, _, h, _⟩, _⟩ | ⟨⟨xs, ys, f, f', _, _, _, _, _, _, _, h, _⟩, _⟩⟩ := h <;> omega
theorem TS.few {W : World} : ∀ {fs : List Tf} {rem : List Nat} {R : Nat} {Q : Prop}, TS W fs rem R Q → fs.length ≤ R
  | [], _, _, _, _ => Nat.zero_le _
  | fr :: rest, rem, R, Q, ⟨r1, R1, Q1, r2, R2, Q2, h1, h2, h3, h4, h5⟩ => by
    have := h2.few
    have := h1.pos
    simp only [List.length_cons]
    omega

/-- What is told: blocks that are left (of what is in hand: ext, and of what is to come), work that is left (E in hand, R to come). -/
def Lg (W : World) (p met nu : Nat) (f : Addr → Int → Option Value) (fs : List Tf) (ext : List Nat) (E R : Nat) (Q : Prop) : Prop :=
  ∃ rs, TS W fs rs R Q ∧ nu ≤ 2 * met ∧ met + (R + E) ≤ 16777216 ∧ (∀ g, (ext ++ rs).count g ≤ 1) ∧ (∀ g ∈ ext ++ rs, g < W.heap.size ∧ g ≠ p) ∧ (∀ x n v, f x n = some v → x.block ∉ ext ++ rs)

/-- Less in hand. -/
theorem Lg.less {W : World} {p met nu : Nat} {f : Addr → Int → Option Value} {fs : List Tf} {ext ext' : List Nat} {E E' R : Nat} {Q : Prop} (h : Lg W p met nu f fs ext E R Q) (hE : E' ≤ E) (hc : ∀ g, ext'.count g ≤ ext.count g) : Lg W p met nu f fs ext' E' R Q := by
  obtain ⟨rs, h1, h2, h3, h4, h5, h6⟩ := h
  have hm : ∀ g, g ∈ ext' ++ rs → g ∈ ext ++ rs := fun g hg => by
    rcases List.mem_append.1 hg with hg | hg
    · have := List.count_pos_iff.2 hg
      exact List.mem_append_left _ (List.count_pos_iff.1 (by have := hc g; omega))
    · exact List.mem_append_right _ hg
  refine ⟨rs, h1, h2, by omega, fun g => ?_, fun g hg => h5 g (hm g hg), fun x n v hv hx => h6 x n v hv (hm _ hx)⟩
  have q1 := h4 g
  have q2 := hc g
  rw [List.count_append] at q1 ⊢
  omega

/-- Two lists in hand are never met before, and are put to what is to come. -/
theorem Lg.fresh {W : World} {p met nu : Nat} {f : Addr → Int → Option Value} {fs : List Tf} {ext t u : List Nat} {ga gb E R : Nat} {Q : Prop} (h : Lg W p met nu f fs ((ga :: t) ++ (gb :: u) ++ ext) E R Q) : ga ≠ p ∧ gb ≠ p ∧ ga ≠ gb ∧ (∀ n, f ⟨ga, 0, none⟩ n = none) ∧ (∀ n, f ⟨gb, 0, none⟩ n = none) ∧ met ≤ 16777216 ∧ nu ≤ 2 * met := by
  obtain ⟨rs, h1, h2, h3, h4, h5, h6⟩ := h
  have ma : ga ∈ (ga :: t) ++ (gb :: u) ++ ext ++ rs := by simp
  have mb : gb ∈ (ga :: t) ++ (gb :: u) ++ ext ++ rs := by simp
  refine ⟨(h5 ga ma).2, (h5 gb mb).2, fun e => ?_, fun n => ?_, fun n => ?_, by omega, h2⟩
  · have q := h4 ga
    subst e
    simp only [List.count_append, List.count_cons_self] at q
    omega
  · cases hv : f ⟨ga, 0, none⟩ n with
    | none => rfl
    | some v => exact absurd ma (h6 _ n v hv)
  · cases hv : f ⟨gb, 0, none⟩ n with
    | none => rfl
    | some v => exact absurd mb (h6 _ n v hv)

theorem Lg.push {W : World} {p met nu nu' : Nat} {f f' : Addr → Int → Option Value} {fs : List Tf} {fr : Tf} {ext t u : List Nat} {ga gb E E' R Rf : Nat} {Q Qf : Prop} (h : Lg W p met nu f fs ((ga :: t) ++ (gb :: u) ++ ext) E R Q) (hT : TF W fr (t ++ u) Rf Qf) (hE : E' + Rf + 1 ≤ E) (hnu : nu' ≤ 2 * (met + 1)) (hf : ∀ x n v, f' x n = some v → f x n = some v ∨ x.block = ga ∨ x.block = gb) : Lg W p (met + 1) nu' f' (fr :: fs) ext E' (Rf + R) (Qf ∧ Q) := by
  obtain ⟨rs, h1, h2, h3, h4, h5, h6⟩ := h
  have hc : ∀ g, (ext ++ (t ++ u ++ rs)).count g + (if ga = g then 1 else 0) + (if gb = g then 1 else 0) = ((ga :: t) ++ (gb :: u) ++ ext ++ rs).count g := fun g => by
    simp only [List.count_append, List.count_cons, beq_iff_eq]
    omega
  have hm : ∀ g, g ∈ ext ++ (t ++ u ++ rs) → g ∈ (ga :: t) ++ (gb :: u) ++ ext ++ rs := fun g hg => by
    have q1 := List.count_pos_iff.2 hg
    have q2 := hc g
    exact List.count_pos_iff.1 (by omega)
  have hno : ∀ g, g ∈ ext ++ (t ++ u ++ rs) → ga ≠ g ∧ gb ≠ g := fun g hg => by
    have q1 := List.count_pos_iff.2 hg
    have q2 := hc g
    have q3 := h4 g
    constructor
    · intro e; rw [if_pos e] at q2; omega
    · intro e; rw [if_pos e] at q2; omega
  refine ⟨t ++ u ++ rs, ⟨_, _, _, _, _, _, hT, h1, rfl, rfl, Iff.rfl⟩, hnu, by omega, fun g => by have := hc g; have := h4 g; omega, fun g hg => h5 g (hm g hg), fun x n v hv hx => ?_⟩
  rcases hf x n v hv with q | q | q
  · exact h6 x n v q (hm _ hx)
  · exact (hno _ hx).1 q.symm
  · exact (hno _ hx).2 q.symm

theorem Lg.few {W : World} {p met nu : Nat} {f : Addr → Int → Option Value} {fs : List Tf} {ext : List Nat} {E R : Nat} {Q : Prop} (h : Lg W p met nu f fs ext E R Q) : fs.length ≤ 16777216 := by
  obtain ⟨rs, h1, h2, h3, _⟩ := h
  have := h1.few
  omega

/-- How the walk stands. -/
def St (W wr : World) (p : Nat) (tv : Value) (fs : List Tf) (ext : List Nat) (E R : Nat) (Q : Prop) (K : List (Nat × Obj)) : Prop := ∃ met nu pv uv f, Sw W wr p met nu pv uv tv f fs K ∧ Lg W p met nu f fs ext E R Q

end Go.Proofs.Ytpokheklplcamaa
