/- What likes keeps in memory, whatever its elements are, and a list of pairs that is under way. -/
import Derived.Test.YtahmbnokjfkfiaaSc1
import Derived.Test.YtahmbnokjfkfiaaSMap
import Derived.Test.YtahmbnokjfkfiaaQTail
import Derived.Maps.AppendAt
import Derived.Deep.DeepCutAuto
import Derived.Deep.RegionWith
import Derived.BigQuiet
namespace Go.Proofs.Ytahmbnokjfkfiaa
open Go.RowKit
set_option linter.unusedVariables false

theorem own_blkG {w : World} {B e z n : Nat} {v : Value} {xs : List Value} (h : w.ownsRow B e z v n xs) : ∀ g, v.ownBlock = some g → B ≤ g ∧ g < w.heap.size := fun g hg => by
  rcases h.2 with ⟨e, _⟩ | ⟨g', c', cur, e1, e2, e3, _⟩
  · rw [e] at hg; cases hg
  · rw [e1] at hg
    obtain rfl : g' = g := by simpa [Value.ownBlock] using hg
    exact ⟨e2, lt_row e3⟩
theorem rowKeptG {w w' : World} {B e z n : Nat} {v : Value} {xs : List Value} (h : w.ownsRow B e z v n xs) (hb : ∀ g, v.ownBlock = some g → w'.heap[g]? = w.heap[g]?) : w'.ownsRow B e z v n xs := by
  obtain ⟨h1, h2⟩ := h
  refine ⟨h1, ?_⟩
  rcases h2 with h2 | ⟨g, c, cur, e1, e2, e3, e4⟩
  · exact .inl h2
  · exact .inr ⟨g, c, cur, e1, e2, (hb g (by rw [e1]; rfl)).trans e3, e4⟩
def updG (f : Addr → Int → Option Value) (x : Addr) (n : Int) (v : Value) : Addr → Int → Option Value := fun y m => if y = x ∧ m = n then some v else f y m
theorem new_oneG {w : World} {B : Nat} (v : Value) (t : TypeId) (hB : w.heap.size = B) : ∀ j u, [v][j]? = some u → (w.alloc (.cells #[v] t)).cell? ((⟨B, 0, none⟩ : Addr).add j) = some u := by
  intro j u hj
  match j, hj with
  | 0, hj => simp at hj; subst hj; subst hB; simp [Addr.add]
theorem eqInt3G (w : World) (n m : Int) (d : Nat) : (Op.equalIn (d + 1) 3 (.int .i64 n) (.int .i64 m)).run Try.prog w = .ok (n == m) w := by
  simp [Op.equalIn, run_underlying Try.underlying3]
theorem Try.infoInt3 : (Try.prog.info? 3).map (fun i => (i.zero, i.size, i.bytes)) = some (some (.int .i64 0), 1, 8) := by kernel_rfl

abbrev Tg := Value × Value
def gcells (fs : List Tg) : List Value := (fs.reverse.map fun f => [f.1, f.2]).flatten
theorem gcells_cons (f : Tg) (fs : List Tg) : gcells (f :: fs) = gcells fs ++ [f.1, f.2] := by unfold gcells; simp
theorem gcells_len (fs : List Tg) : (gcells fs).length = fs.length * 2 := by
  induction fs with
  | nil => rfl
  | cons f fs ih => rw [gcells_cons, List.length_append, ih]; simp only [List.length_cons, List.length_nil]; omega

theorem rows_apartG {w : World} {B t1 z1 n1 t2 z2 n2 : Nat} {v1 v2 : Value} {xs1 xs2 : List Value} (h1 : w.ownsRow B t1 z1 v1 n1 xs1) (h2 : w.ownsRow B t2 z2 v2 n2 xs2) (ht : t1 ≠ t2) : ∀ g, v1.ownBlock = some g → v2.ownBlock ≠ some g := fun g e1 e2 => by
  rcases h1.2 with ⟨e, _⟩ | ⟨g1, c1, cur1, e, _, q1, _⟩
  · rw [e] at e1; cases e1
  · rw [e] at e1
    obtain rfl : g1 = g := by simpa [Value.ownBlock] using e1
    rcases h2.2 with ⟨e', _⟩ | ⟨g2, c2, cur2, e', _, q2, _⟩
    · rw [e'] at e2; cases e2
    · rw [e'] at e2
      obtain rfl : g2 = g1 := by simpa [Value.ownBlock] using e2
      rw [q1] at q2
      simp only [Option.some.injEq, Obj.cells.injEq] at q2
      exact ht q2.2.1
theorem row_not_mapG {w : World} {B t z n M : Nat} {v : Value} {xs : List Value} {f : Addr → Int → Option Value} (h : w.ownsRow B t z v n xs) (hm : SMap w M f) : ∀ g, v.ownBlock = some g → M ≠ g := fun g e1 e => by
  subst e
  obtain ⟨es, cl, l, q, _⟩ := hm
  rcases h.2 with ⟨e, _⟩ | ⟨g1, c1, cur1, e, _, q1, _⟩
  · rw [e] at e1; cases e1
  · rw [e] at e1
    obtain rfl : g1 = M := by simpa [Value.ownBlock] using e1
    rw [q1] at q
    cases q

theorem set_restG (w : World) (g i : Nat) (v : Value) : (w.setCell ⟨g, i, none⟩ v).os = w.os ∧ (w.setCell ⟨g, i, none⟩ v).tape = w.tape ∧ (w.setCell ⟨g, i, none⟩ v).output = w.output ∧ w.heap.size ≤ (w.setCell ⟨g, i, none⟩ v).heap.size := by
  have h := (Below.refl g w).setCell (p := ⟨g, i, none⟩) (Nat.le_refl g) v
  exact ⟨h.os, h.tape, h.output, h.size⟩

/-- The map of places, if there is one yet. -/
def MapAtG (W wr : World) (pv : Value) (f : Addr → Int → Option Value) : Prop := (pv = .map none ∧ ∀ x n, f x n = none) ∨ ∃ M, pv = .map (some M) ∧ W.heap.size ≤ M ∧ SMap wr M f

/-- What lies in memory. -/
structure Sv (TL TT : TypeId) (W wr : World) (p met nu : Nat) (pv uv tv : Value) (f : Addr → Int → Option Value) (fs : List Tg) (K : List (Nat × Obj)) : Prop where
  kept : Kept p (p + 1) W wr
  plt : p < W.heap.size
  tt : TT ≠ 3
  row : wr.heap[p]? = some (.cells #[.int .i64 (met : Nat), pv, uv] TL (0, 0))
  map : MapAtG W wr pv f
  up : ∃ xs, wr.ownsRow W.heap.size 3 1 uv nu xs
  todo : wr.ownsRow W.heap.size TT 2 tv fs.length (gcells fs)
  keys : ∀ x n v, f x n = some v → x.block < W.heap.size ∧ x.block ≠ p
  ext : ∀ q ∈ K, wr.heap[q.1]? = some q.2 ∧ q.1 ≠ p ∧ pv ≠ .map (some q.1) ∧ uv.ownBlock ≠ some q.1 ∧ tv.ownBlock ≠ some q.1

theorem MapAtG.kept {W wr w' : World} {p : Nat} {pv : Value} {f : Addr → Int → Option Value} (h : MapAtG W wr pv f) (hm : ∀ M f, SMap wr M f → W.heap.size ≤ M → w'.heap[M]? = wr.heap[M]?) (hk : ∀ x n v, f x n = some v → x.block < W.heap.size ∧ x.block ≠ p) (hl : ∀ g, g < W.heap.size → g ≠ p → w'.heap[g]? = wr.heap[g]?) : MapAtG W w' pv f := by
  rcases h with h | ⟨M, e, hM, hs⟩
  · exact .inl h
  · exact .inr ⟨M, e, hM, hs.kept (hm M f hs hM) fun x n v hv ⟨c, t, hx⟩ => ⟨c, t, (hl _ (hk x n v hv).1 (hk x n v hv).2).trans hx⟩⟩

/-- Block p is turned, and blocks that none speaks of. -/
theorem Sv.turn {TL TT : TypeId} {W wr w' : World} {p met nu met' : Nat} {pv uv tv : Value} {f : Addr → Int → Option Value} {fs : List Tg} {K : List (Nat × Obj)} (h : Sv TL TT W wr p met nu pv uv tv f fs K) (ho : w'.os = wr.os) (ht : w'.tape = wr.tape) (hou : w'.output = wr.output) (hsz : wr.heap.size ≤ w'.heap.size) (hb : ∀ g, g < wr.heap.size → g ≠ p → w'.heap[g]? = wr.heap[g]?) (hp : w'.heap[p]? = some (.cells #[.int .i64 (met' : Nat), pv, uv] TL (0, 0))) : Sv TL TT W w' p met' nu pv uv tv f fs K := by
  have hk := h.kept
  have hpl := h.plt
  obtain ⟨xs, hup⟩ := h.up
  refine ⟨⟨ho.trans hk.os, ht.trans hk.tape, hou.trans hk.output, Nat.le_trans hk.size hsz, fun g hg hpq => (hb g (Nat.lt_of_lt_of_le hg hk.size) (by omega)).trans (hk.block g hg hpq)⟩, hpl, h.tt, hp, h.map.kept (p := p) (fun M f hs hM => hb M hs.lt (by omega)) h.keys (fun g hg hne => hb g (Nat.lt_of_lt_of_le hg hk.size) hne), ⟨xs, rowKeptG hup fun g hg => hb g (own_blkG hup g hg).2 (by have := (own_blkG hup g hg).1; omega)⟩, rowKeptG h.todo fun g hg => hb g (own_blkG h.todo g hg).2 (by have := (own_blkG h.todo g hg).1; omega), h.keys, fun q hq => ⟨(hb _ (lt_row (h.ext q hq).1) (h.ext q hq).2.1).trans (h.ext q hq).1, (h.ext q hq).2⟩⟩

theorem Sv.later {TL TT : TypeId} {W wr w' : World} {p met nu : Nat} {pv uv tv : Value} {f : Addr → Int → Option Value} {fs : List Tg} {K : List (Nat × Obj)} (h : Sv TL TT W wr p met nu pv uv tv f fs K) (hb : Below wr.heap.size wr w') : Sv TL TT W w' p met nu pv uv tv f fs K :=
  h.turn hb.os hb.tape hb.output hb.size (fun g hg _ => hb.block g hg) ((hb.block p (Nat.lt_of_lt_of_le h.plt h.kept.size)).trans h.row)

theorem Sv.cells {TL TT : TypeId} {W wr : World} {p met nu : Nat} {pv uv tv : Value} {f : Addr → Int → Option Value} {fs : List Tg} {K : List (Nat × Obj)} (h : Sv TL TT W wr p met nu pv uv tv f fs K) : wr.cell? ⟨p, 0, none⟩ = some (.int .i64 (met : Nat)) ∧ wr.cell? ⟨p, 1, none⟩ = some pv ∧ wr.cell? ⟨p, 2, none⟩ = some uv ∧ (∀ i, wr.frozen? ⟨p, i, none⟩ = false) := by
  refine ⟨?_, ?_, ?_, fun i => frozen_of_row wr _ _ _ _ h.row⟩
  · rw [cell_of_row wr _ 0 _ _ _ h.row]; rfl
  · rw [cell_of_row wr _ 1 _ _ _ h.row]; rfl
  · rw [cell_of_row wr _ 2 _ _ _ h.row]; rfl

theorem Sv.at {TL TT : TypeId} {W wr : World} {p met nu : Nat} {pv uv tv : Value} {f : Addr → Int → Option Value} {fs : List Tg} {K : List (Nat × Obj)} (h : Sv TL TT W wr p met nu pv uv tv f fs K) {g : Nat} {o : Obj} (hg : W.heap[g]? = some o) (hp : g ≠ p) : wr.heap[g]? = some o :=
  (h.kept.block g (lt_row hg) (by omega)).trans hg

/-- A new block may be counted on too; and none need be. -/
theorem Sv.keep {TL TT : TypeId} {W wr : World} {p met nu : Nat} {pv uv tv : Value} {f : Addr → Int → Option Value} {fs : List Tg} {K : List (Nat × Obj)} (h : Sv TL TT W wr p met nu pv uv tv f fs K) (o : Obj) {w' : World} (hw : w' = wr.alloc o) (o' : Obj) (ho : w'.heap[wr.heap.size]? = some o') : Sv TL TT W w' p met nu pv uv tv f fs ((wr.heap.size, o') :: K) := by
  have h1 : Sv TL TT W w' p met nu pv uv tv f fs K := h.later (by rw [hw]; exact (Below.refl _ _).alloc (Nat.le_refl _) _)
  have hpl := Nat.lt_of_lt_of_le h.plt h.kept.size
  obtain ⟨xs, hup⟩ := h.up
  refine ⟨h1.kept, h1.plt, h1.tt, h1.row, h1.map, h1.up, h1.todo, h1.keys, fun q hq => ?_⟩
  rcases List.mem_cons.1 hq with rfl | hq
  · refine ⟨ho, by show wr.heap.size ≠ p; omega, fun e => ?_, fun e => ?_, fun e => ?_⟩
    · rcases h.map with ⟨e', _⟩ | ⟨M, e', _, hs⟩
      · rw [e'] at e; cases e
      · rw [e'] at e
        simp only [Value.map.injEq, Option.some.injEq] at e
        have := hs.lt
        omega
    · have := (own_blkG hup _ e).2; simp at this
    · have := (own_blkG h.todo _ e).2; simp at this
  · exact h1.ext q hq
theorem Sv.drop {TL TT : TypeId} {W wr : World} {p met nu : Nat} {pv uv tv : Value} {f : Addr → Int → Option Value} {fs : List Tg} {K K' : List (Nat × Obj)} (h : Sv TL TT W wr p met nu pv uv tv f fs K) (hs : ∀ q ∈ K', q ∈ K) : Sv TL TT W wr p met nu pv uv tv f fs K' := ⟨h.kept, h.plt, h.tt, h.row, h.map, h.up, h.todo, h.keys, fun q hq => h.ext q (hs q hq)⟩

/-- One more is met. -/
theorem Sv.meet {TL TT : TypeId} {W wr : World} {p met nu : Nat} {pv uv tv : Value} {f : Addr → Int → Option Value} {fs : List Tg} {K : List (Nat × Obj)} (h : Sv TL TT W wr p met nu pv uv tv f fs K) : Sv TL TT W (wr.setCell ⟨p, 0, none⟩ (.int .i64 ((met : Int) + 1))) p (met + 1) nu pv uv tv f fs K := by
  have hh := heap_setCell_same wr p 0 _ TL (.int .i64 ((met : Int) + 1)) h.row
  obtain ⟨s1, s2, s3, s4⟩ := set_restG wr p 0 (.int .i64 ((met : Int) + 1))
  exact h.turn s1 s2 s3 s4 (fun g hg hne => heap_setCell_other _ _ _ _ (by simpa using hne)) (hh.trans (by simp))

/-- A map is made. -/
theorem Sv.mapMade {TL TT : TypeId} {W wr : World} {p met nu : Nat} {uv tv : Value} {f : Addr → Int → Option Value} {fs : List Tg} {K : List (Nat × Obj)} (h : Sv TL TT W wr p met nu (.map none) uv tv f fs K) : Sv TL TT W ((wr.alloc (.map #[] 0)).setCell ⟨p, 1, none⟩ (.map (some wr.heap.size))) p met nu (.map (some wr.heap.size)) uv tv f fs K := by
  have hk := h.kept
  have hpl := h.plt
  have hps : p < wr.heap.size := Nat.lt_of_lt_of_le hpl hk.size
  obtain ⟨xs, hup⟩ := h.up
  have hf : ∀ x n, f x n = none := by
    rcases h.map with ⟨_, e⟩ | ⟨M, e, _⟩
    · exact e
    · cases e
  obtain ⟨V, hV⟩ : ∃ V, V = wr.alloc (.map #[] 0) := ⟨_, rfl⟩
  have hbV : Below wr.heap.size wr V := by rw [hV]; exact (Below.refl _ _).alloc (Nat.le_refl _) _
  have hMV : V.heap[wr.heap.size]? = some (.map #[] 0) := by rw [hV]; exact heap_alloc_new wr _
  have hrV := (hbV.block p hps).trans h.row
  rw [← hV]
  have hh := heap_setCell_same V p 1 _ TL (.map (some wr.heap.size)) hrV
  have hoth : ∀ g, g ≠ p → (V.setCell ⟨p, 1, none⟩ (.map (some wr.heap.size))).heap[g]? = V.heap[g]? := fun g hne => heap_setCell_other _ _ _ _ (by simpa using hne)
  have hb : ∀ g, g < wr.heap.size → g ≠ p → (V.setCell ⟨p, 1, none⟩ (.map (some wr.heap.size))).heap[g]? = wr.heap[g]? := fun g hg hne => (hoth g hne).trans (hbV.block g hg)
  have hsz : wr.heap.size ≤ V.heap.size := hbV.size
  obtain ⟨s1, s2, s3, s4⟩ := set_restG V p 1 (.map (some wr.heap.size))
  refine ⟨⟨s1.trans (hbV.os.trans hk.os), s2.trans (hbV.tape.trans hk.tape), s3.trans (hbV.output.trans hk.output), Nat.le_trans hk.size (Nat.le_trans hsz s4), fun g hg hpq => (hb g (Nat.lt_of_lt_of_le hg hk.size) (by omega)).trans (hk.block g hg hpq)⟩, hpl, h.tt, hh.trans (by simp), .inr ⟨_, rfl, hk.size, #[], 0, [], (hoth _ (by omega)).trans hMV, rfl, (fun q (h : q ∈ []) => absurd h List.not_mem_nil), fun x n => (hf x n).symm⟩, ⟨xs, rowKeptG hup fun g hg => hb g (own_blkG hup g hg).2 (by have := (own_blkG hup g hg).1; omega)⟩, rowKeptG h.todo fun g hg => hb g (own_blkG h.todo g hg).2 (by have := (own_blkG h.todo g hg).1; omega), h.keys, fun q hq => ⟨(hb _ (lt_row (h.ext q hq).1) (h.ext q hq).2.1).trans (h.ext q hq).1, (h.ext q hq).2.1, fun e => ?_, (h.ext q hq).2.2.2⟩⟩
  have := lt_row (h.ext q hq).1
  simp only [Value.map.injEq, Option.some.injEq] at e
  omega

/-- A place is kept. -/
theorem Sv.mapStored {TL TT : TypeId} {W wr w6 : World} {p met nu M : Nat} {uv tv : Value} {f f' : Addr → Int → Option Value} {fs : List Tg} {K : List (Nat × Obj)} (h : Sv TL TT W wr p met nu (.map (some M)) uv tv f fs K) (hT : wr.mapTurned w6 M) (hS : SMap w6 M f') (hkf : ∀ x n v, f' x n = some v → x.block < W.heap.size ∧ x.block ≠ p) : Sv TL TT W w6 p met nu (.map (some M)) uv tv f' fs K := by
  have hg := hT.grown
  have hk := h.kept
  have hpl := h.plt
  obtain ⟨xs, hup⟩ := h.up
  obtain ⟨hM, hs⟩ : W.heap.size ≤ M ∧ SMap wr M f := by
    rcases h.map with ⟨e, _⟩ | ⟨M', e, hM, hs⟩
    · cases e
    · simp only [Value.map.injEq, Option.some.injEq] at e; subst e; exact ⟨hM, hs⟩
  have n1 := row_not_mapG hup hs
  have n2 := row_not_mapG h.todo hs
  exact ⟨⟨hg.os.trans hk.os, hg.tape.trans hk.tape, hg.output.trans hk.output, Nat.le_trans hk.size hg.size, fun g hg' hpq => (hg.block g (Nat.lt_of_lt_of_le hg' hk.size) (by simp; omega)).trans (hk.block g hg' hpq)⟩, hpl, h.tt, (hg.block p (Nat.lt_of_lt_of_le hpl hk.size) (by simp; omega)).trans h.row, .inr ⟨M, rfl, hM, hS⟩, ⟨xs, rowKeptG hup fun g hn => hg.block g (own_blkG hup g hn).2 (by have := n1 g hn; simp; omega)⟩, rowKeptG h.todo fun g hn => hg.block g (own_blkG h.todo g hn).2 (by have := n2 g hn; simp; omega), hkf, fun q hq => ⟨(hg.block _ (lt_row (h.ext q hq).1) (fun e => (h.ext q hq).2.2.1 (by rw [e]))).trans (h.ext q hq).1, (h.ext q hq).2⟩⟩

/-- A number more. -/
theorem Sv.grew {TL TT : TypeId} {W wr w2 : World} {p met nu : Nat} {pv uv tv v' : Value} {f : Addr → Int → Option Value} {fs : List Tg} {K : List (Nat × Obj)} (h : Sv TL TT W wr p met nu pv uv tv f fs K) {xs : List Value} (hown : w2.ownsRow W.heap.size 3 1 v' (nu + 1) xs) (hg : wr.grownBy w2 uv.ownBlock) (hat : v'.ownBlock = uv.ownBlock ∨ v'.ownBlock = some wr.heap.size) : Sv TL TT W (w2.setCell ⟨p, 2, none⟩ v') p met (nu + 1) pv v' tv f fs K := by
  have hk := h.kept
  have hpl := h.plt
  obtain ⟨ys, hup⟩ := h.up
  have hpu : ∀ g, uv.ownBlock = some g → W.heap.size ≤ g := fun g e => (own_blkG hup g e).1
  have hr2 := (hg.block p (Nat.lt_of_lt_of_le hpl hk.size) (fun e => by have := hpu p e.symm; omega)).trans h.row
  have hh := heap_setCell_same w2 p 2 _ TL v' hr2
  have hoth : ∀ g, g ≠ p → (w2.setCell ⟨p, 2, none⟩ v').heap[g]? = w2.heap[g]? := fun g hne => heap_setCell_other _ _ _ _ (by simpa using hne)
  have hlow : ∀ g, g < W.heap.size → g ≠ p → (w2.setCell ⟨p, 2, none⟩ v').heap[g]? = wr.heap[g]? := fun g hg' hne => (hoth g hne).trans (hg.block g (Nat.lt_of_lt_of_le hg' hk.size) (fun e => by have := hpu g e.symm; omega))
  have hsz : wr.heap.size ≤ w2.heap.size := hg.size
  have hap := rows_apartG h.todo hup h.tt
  obtain ⟨s1, s2, s3, s4⟩ := set_restG w2 p 2 v'
  refine ⟨⟨s1.trans (hg.os.trans hk.os), s2.trans (hg.tape.trans hk.tape), s3.trans (hg.output.trans hk.output), Nat.le_trans hk.size (Nat.le_trans hsz s4), fun g hg' hpq => (hlow g hg' (by omega)).trans (hk.block g hg' hpq)⟩, hpl, h.tt, hh.trans (by simp), h.map.kept (p := p) (fun M f hs hM => (hoth M (by omega)).trans (hg.block M hs.lt fun e => row_not_mapG hup hs M e.symm rfl)) h.keys hlow, ⟨xs, rowKeptG hown fun g hn => hoth g (by have := (own_blkG hown g hn).1; omega)⟩, rowKeptG h.todo fun g hn => (hoth g (by have := (own_blkG h.todo g hn).1; omega)).trans (hg.block g (own_blkG h.todo g hn).2 fun e => hap g hn e.symm), h.keys, fun q hq => ⟨(hoth _ (h.ext q hq).2.1).trans ((hg.block _ (lt_row (h.ext q hq).1) (fun e => (h.ext q hq).2.2.2.1 e.symm)).trans (h.ext q hq).1), (h.ext q hq).2.1, (h.ext q hq).2.2.1, fun e => ?_, (h.ext q hq).2.2.2.2⟩⟩
  have := lt_row (h.ext q hq).1
  rcases hat with h' | h'
  · exact (h.ext q hq).2.2.2.1 (h'.symm.trans e)
  · rw [h'] at e; simp only [Option.some.injEq] at e; omega

/-- A list of pairs more. -/
theorem Sv.pushed {TL TT : TypeId} {W wr w2 : World} {p met nu : Nat} {pv uv tv v' : Value} {f : Addr → Int → Option Value} {fs : List Tg} {K : List (Nat × Obj)} {fr : Tg} (h : Sv TL TT W wr p met nu pv uv tv f fs K) (hown : w2.ownsRow W.heap.size TT 2 v' (fs.length + 1) (gcells fs ++ [fr.1, fr.2])) (hg : wr.grownBy w2 tv.ownBlock) (hat : v'.ownBlock = tv.ownBlock ∨ v'.ownBlock = some wr.heap.size) : Sv TL TT W w2 p met nu pv uv v' f (fr :: fs) K := by
  have hk := h.kept
  have hpl := h.plt
  obtain ⟨ys, hup⟩ := h.up
  have htd := h.todo
  have hpu : ∀ g, tv.ownBlock = some g → W.heap.size ≤ g := fun g e => (own_blkG htd g e).1
  have hr2 := (hg.block p (Nat.lt_of_lt_of_le hpl hk.size) (fun e => by have := hpu p e.symm; omega)).trans h.row
  have hlow : ∀ g, g < W.heap.size → g ≠ p → w2.heap[g]? = wr.heap[g]? := fun g hg' hne => hg.block g (Nat.lt_of_lt_of_le hg' hk.size) (fun e => by have := hpu g e.symm; omega)
  have hsz : wr.heap.size ≤ w2.heap.size := hg.size
  have hap := rows_apartG hup htd h.tt.symm
  refine ⟨⟨hg.os.trans hk.os, hg.tape.trans hk.tape, hg.output.trans hk.output, Nat.le_trans hk.size hsz, fun g hg' hpq => (hlow g hg' (by omega)).trans (hk.block g hg' hpq)⟩, hpl, h.tt, hr2, h.map.kept (p := p) (fun M f hs hM => hg.block M hs.lt fun e => row_not_mapG htd hs M e.symm rfl) h.keys hlow, ⟨ys, rowKeptG hup fun g hn => hg.block g (own_blkG hup g hn).2 fun e => hap g hn e.symm⟩, ?_, h.keys, fun q hq => ⟨(hg.block _ (lt_row (h.ext q hq).1) (fun e => (h.ext q hq).2.2.2.2 e.symm)).trans (h.ext q hq).1, (h.ext q hq).2.1, (h.ext q hq).2.2.1, (h.ext q hq).2.2.2.1, fun e => ?_⟩⟩
  · rw [gcells_cons]
    exact hown
  · have := lt_row (h.ext q hq).1
    rcases hat with h' | h'
    · exact (h.ext q hq).2.2.2.2 (h'.symm.trans e)
    · rw [h'] at e; simp only [Option.some.injEq] at e; omega

/-- The last is taken off. -/
theorem Sv.popped {TL TT : TypeId} {W wr : World} {p met nu g n c : Nat} {pv uv : Value} {f : Addr → Int → Option Value} {fs : List Tg} {fr : Tg} {K : List (Nat × Obj)} (h : Sv TL TT W wr p met nu pv uv (.slice (some ⟨g, 0, none⟩) n c) f (fr :: fs) K) : Sv TL TT W wr p met nu pv uv (.slice (some ⟨g, 0, none⟩) fs.length c) f fs K := by
  refine ⟨h.kept, h.plt, h.tt, h.row, h.map, h.up, ?_, h.keys, fun q hq => h.ext q hq⟩
  obtain ⟨hl, hr⟩ := h.todo
  refine ⟨gcells_len fs, .inr ?_⟩
  rcases hr with ⟨e, _⟩ | ⟨g', cap, cur, e', q1, q2, q3, q4, q5, q6⟩
  · cases e
  · simp only [Value.slice.injEq, Option.some.injEq, Addr.mk.injEq, and_true] at e'
    obtain ⟨rfl, e2, rfl⟩ := e'
    simp only [List.length_cons] at q3 q4 q5 q6 e2
    refine ⟨g, c, cur, rfl, q1, q2, by omega, q4, q5, ?_⟩
    rw [gcells_cons] at q6
    have := congrArg (List.take (fs.length * 2)) q6
    rw [List.take_take, Nat.min_eq_left (by omega), List.take_append_of_le_length (by rw [gcells_len]; exact Nat.le_refl _), ← gcells_len, List.take_length] at this
    rw [gcells_len] at this
    exact this

/-- .. and where it stands. -/
theorem Sv.top {TL TT : TypeId} {W wr : World} {p met nu : Nat} {pv uv tv : Value} {f : Addr → Int → Option Value} {fs : List Tg} {fr : Tg} {K : List (Nat × Obj)} (h : Sv TL TT W wr p met nu pv uv tv f (fr :: fs) K) : ∃ g c, tv = .slice (some ⟨g, 0, none⟩) (fs.length + 1) c ∧ W.heap.size ≤ g ∧ fs.length + 1 ≤ c ∧
    wr.cell? ⟨g, fs.length * 2, none⟩ = some fr.1 ∧ wr.cell? ⟨g, fs.length * 2 + 1, none⟩ = some fr.2 := by
  obtain ⟨hl, hr⟩ := h.todo
  rcases hr with ⟨_, e⟩ | ⟨g, c, cur, e, q1, q2, q3, q4, q5, q6⟩
  · simp at e
  · rw [gcells_cons] at q6
    have hc : ∀ (i : Nat) (u : Value), [fr.1, fr.2][i]? = some u → wr.cell? ⟨g, fs.length * 2 + i, none⟩ = some u := fun i u hi => by
      have hi4 : i < 2 := by have := (List.getElem?_eq_some_iff.1 hi).1; simpa using this
      rw [cell_of_row wr _ _ _ _ _ q2]
      have h1 := congrArg (fun l : List Value => l[fs.length * 2 + i]?) q6
      rw [List.getElem?_append_right (by rw [gcells_len]; omega), gcells_len, Nat.add_sub_cancel_left, hi, List.getElem?_take_of_lt (by simp only [List.length_cons]; omega)] at h1
      rw [← Array.getElem?_toList]
      exact h1
    exact ⟨g, c, e, q1, by simpa using q3, hc 0 _ rfl, hc 1 _ rfl⟩
theorem Sv.done {TL TT : TypeId} {W wr : World} {p met nu : Nat} {pv uv tv : Value} {f : Addr → Int → Option Value} {K : List (Nat × Obj)} (h : Sv TL TT W wr p met nu pv uv tv f [] K) : ∃ a c, tv = .slice a 0 c := by
  obtain ⟨hl, hr⟩ := h.todo
  rcases hr with ⟨e, _⟩ | ⟨g, c, cur, e, _⟩
  · exact ⟨_, _, e⟩
  · exact ⟨_, _, e⟩

/-- A number is set. -/
theorem Sv.numSet {TL TT : TypeId} {W wr : World} {p met nu : Nat} {pv uv tv : Value} {f : Addr → Int → Option Value} {fs : List Tg} {K : List (Nat × Obj)} (h : Sv TL TT W wr p met nu pv uv tv f fs K) {g c i : Nat} (e : uv = .slice (some ⟨g, 0, none⟩) nu c) (hi : i < nu) (x : Int) : Sv TL TT W (wr.setCell ⟨g, i, none⟩ (.int .i64 x)) p met nu pv uv tv f fs K := by
  have hk := h.kept
  have hpl := h.plt
  obtain ⟨ys, hup⟩ := h.up
  have hgo : uv.ownBlock = some g := by rw [e]; rfl
  have hgw := (own_blkG hup g hgo).1
  have hoth : ∀ j, j ≠ g → (wr.setCell ⟨g, i, none⟩ (.int .i64 x)).heap[j]? = wr.heap[j]? := fun j hne => heap_setCell_other _ _ _ _ (by simpa using hne)
  have hap := rows_apartG h.todo hup h.tt
  have hlow : ∀ j, j < W.heap.size → j ≠ p → (wr.setCell ⟨g, i, none⟩ (.int .i64 x)).heap[j]? = wr.heap[j]? := fun j hj _ => hoth j (by omega)
  obtain ⟨s1, s2, s3, s4⟩ := set_restG wr g i (.int .i64 x)
  refine ⟨⟨s1.trans hk.os, s2.trans hk.tape, s3.trans hk.output, Nat.le_trans hk.size s4, fun j hj hpq => (hlow j hj (by omega)).trans (hk.block j hj hpq)⟩, hpl, h.tt, (hoth p (by omega)).trans h.row, h.map.kept (p := p) (fun M f hs hM => hoth M (row_not_mapG hup hs g hgo)) h.keys hlow, ?_, rowKeptG h.todo fun j hj => hoth j (fun e => hap j hj (by rw [e]; exact hgo)), h.keys, fun q hq => ⟨(hoth _ (fun e => (h.ext q hq).2.2.2.1 (by rw [e]; exact hgo))).trans (h.ext q hq).1, (h.ext q hq).2⟩⟩
  rcases hup.2 with ⟨e', _⟩ | ⟨g', cap, cur, e', q1, q2, q3, q4, q5, q6⟩
  · rw [e] at e'; cases e'
  · rw [e] at e'
    simp only [Value.slice.injEq, Option.some.injEq, Addr.mk.injEq, and_true, true_and] at e'
    obtain ⟨rfl, rfl⟩ := e'
    refine ⟨(cur.setIfInBounds i (.int .i64 x)).toList.take (nu * 1), ?_, .inr ⟨g, c, _, e, q1, heap_setCell_same wr g i cur 3 _ q2, q3, q4, by simpa using q5, rfl⟩⟩
    simp
    omega

theorem Sv.rowUp {TL TT : TypeId} {W wr w2 : World} {p met nu : Nat} {pv uv tv : Value} {f : Addr → Int → Option Value} {fs : List Tg} {K : List (Nat × Obj)} (h : Sv TL TT W wr p met nu pv uv tv f fs K) (hg : wr.grownBy w2 uv.ownBlock) : w2.heap[p]? = some (.cells #[.int .i64 (met : Nat), pv, uv] TL (0, 0)) := by
  obtain ⟨ys, hup⟩ := h.up
  have hpl := h.plt
  exact (hg.block p (Nat.lt_of_lt_of_le hpl h.kept.size) (fun e => by have := (own_blkG hup p e.symm).1; omega)).trans h.row
/-- The last of a row that has just grown. -/
theorem row_lastG {w : World} {B t n : Nat} {v x : Value} {xs : List Value} (h : w.ownsRow B t 1 v (n + 1) (xs ++ [x])) : ∃ g c cur, v = .slice (some ⟨g, 0, none⟩) (n + 1) c ∧ B ≤ g ∧ w.heap[g]? = some (.cells cur t (0, 0)) ∧ cur[n]? = some x := by
  have hl : xs.length = n := by have := h.1; simp at this; omega
  rcases h.2 with ⟨_, e⟩ | ⟨g, c, cur, e1, e2, e3, e4, e5, e6, e7⟩
  · omega
  · refine ⟨g, c, cur, e1, e2, e3, ?_⟩
    have h1 : (cur.toList.take ((n + 1) * 1))[n]? = some x := by rw [e7, List.getElem?_append_right (by omega), hl]; simp
    rw [List.getElem?_take_of_lt (by omega)] at h1
    simpa using h1

theorem look_drewNG {P : Program} {t k e : TypeId} (S : SpotTy P k) (ht : P.underlying t = some (.map k e)) {w : World} {b : Nat} {f : Addr → Int → Option Value} (h : SMap w b f) {x : Addr} {n : Int} (hx : Plain w x) {z : Value} (hz : ∀ V, (zeroValue e).run P V = .ok z V) (hf : f x n = none) (q : Nat) :
    (Instr.lookup t (.map (some b)) (.agg #[.pointer (some x), .int .i64 n]) true).run P (w.drewN q) = .ok (.tuple #[z, .bool false]) (w.drewN q) := by
  have hb : Below w.heap.size w (w.drewN q) := below_drewN (Below.refl _ _) _
  have hs : SMap (w.drewN q) b f := h.kept (hb.block b h.lt) fun y m v _ ⟨c, t, hy⟩ => ⟨c, t, (hb.block _ (lt_row hy)).trans hy⟩
  have hx' : Plain (w.drewN q) x := by
    obtain ⟨c, t, hy⟩ := hx
    exact ⟨c, t, (hb.block _ (lt_row hy)).trans hy⟩
  have := hs.look S ht (n := n) hx' (hz _)
  rw [hf] at this
  exact this


end Go.Proofs.Ytahmbnokjfkfiaa
