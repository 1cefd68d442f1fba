/- A walk through an expression for its names: what stands. -/
import Derived.Test.YtpokheklplcamaaSVarsM
import Derived.Test.YtpokheklplcamaaMOf2M
namespace Go.Proofs.Ytpokheklplcamaa
open Go.RowKit
set_option linter.unusedVariables false

abbrev Nfm := Value × Nat × Nat

def ncells (fs : List Nfm) : List Value := (fs.reverse.map fun f => [f.1, (.int .i64 (f.2.1 : Nat)), .int .i64 (f.2.2 : Nat)]).flatten

theorem ncells_cons (f : Nfm) (fs : List Nfm) : ncells (f :: fs) = ncells fs ++ [f.1, (.int .i64 (f.2.1 : Nat)), .int .i64 (f.2.2 : Nat)] := by
  unfold ncells
  simp

theorem ncells_len (fs : List Nfm) : (ncells fs).length = fs.length * 3 := by
  induction fs with
  | nil => rfl
  | cons f fs ih => rw [ncells_cons, List.length_append, ih]; simp only [List.length_cons, List.length_nil]; omega

theorem nrow_top {w : World} {B : Nat} {v : Value} {f : Nfm} {fs : List Nfm} (h : w.ownsRow B 123 3 v (fs.length + 1) (ncells (f :: fs))) : ∃ g cap cur, v = .slice (some ⟨g, 0, none⟩) (fs.length + 1) cap ∧ B ≤ g ∧ w.heap[g]? = some (.cells cur 123 (0, 0)) ∧ fs.length + 1 ≤ cap ∧ cap ≤ maxLen ∧ cur.size = cap * 3 ∧ cur.toList.take ((fs.length + 1) * 3) = ncells (f :: fs) ∧
    cur[fs.length * 3]? = some f.1 ∧ cur[fs.length * 3 + 1]? = some (.int .i64 (f.2.1 : Nat)) ∧ cur[fs.length * 3 + 2]? = some (.int .i64 (f.2.2 : Nat)) := by
  rcases h.2 with ⟨_, h0⟩ | ⟨g, cap, cur, e1, e2, e3, e4, e5, e6, e7⟩
  · omega
  · have hj : ∀ j u, [f.1, (.int .i64 (f.2.1 : Nat)), .int .i64 (f.2.2 : Nat)][j]? = some u → cur[fs.length * 3 + j]? = some u := by
      intro j u hu
      have hjl : j < 3 := by
        have := (List.getElem?_eq_some_iff.1 hu).1
        simpa using this
      have h1 : (cur.toList.take ((fs.length + 1) * 3))[fs.length * 3 + j]? = some u := by
        rw [e7, ncells_cons, List.getElem?_append_right (by rw [ncells_len]; omega), ncells_len, show fs.length * 3 + j - fs.length * 3 = j from by omega]
        exact hu
      rw [List.getElem?_take_of_lt (by omega)] at h1
      simpa using h1
    exact ⟨g, cap, cur, e1, e2, e3, e4, e5, e6, e7, hj 0 _ rfl, hj 1 _ rfl, hj 2 _ rfl⟩

theorem nrow_turn {w' : World} {B g cap : Nat} {cur cur' : Array Value} {f f' : Nfm} {fs : List Nfm} (hB : B ≤ g) (h2 : fs.length + 1 ≤ cap) (h3 : cap ≤ maxLen) (h4 : cur.size = cap * 3) (h5 : cur.toList.take ((fs.length + 1) * 3) = ncells (f :: fs))
    (h6 : w'.heap[g]? = some (.cells cur' 123 (0, 0))) (h7 : cur'.size = cur.size) (h8 : ∀ j, j < fs.length * 3 → cur'[j]? = cur[j]?) (k0 : cur'[fs.length * 3]? = some f'.1) (k1 : cur'[fs.length * 3 + 1]? = some (.int .i64 (f'.2.1 : Nat))) (k2 : cur'[fs.length * 3 + 2]? = some (.int .i64 (f'.2.2 : Nat))) :
    w'.ownsRow B 123 3 (.slice (some ⟨g, 0, none⟩) (fs.length + 1) cap) (fs.length + 1) (ncells (f' :: fs)) := by
  refine ⟨by rw [ncells_len]; rfl, .inr ⟨g, cap, cur', rfl, hB, h6, h2, h3, h7.trans h4, ?_⟩⟩
  rw [ncells_cons]
  apply List.ext_getElem?
  intro j
  rw [ncells_cons] at h5
  by_cases hj : j < fs.length * 3
  · rw [List.getElem?_take_of_lt (by omega), List.getElem?_append_left (by rw [ncells_len]; exact hj)]
    have := congrArg (fun l => l[j]?) h5
    rw [List.getElem?_take_of_lt (by omega), List.getElem?_append_left (by rw [ncells_len]; exact hj)] at this
    rw [← this]
    have := h8 j hj
    simpa using this
  · rw [List.getElem?_append_right (by rw [ncells_len]; omega), ncells_len]
    by_cases hj2 : j < (fs.length + 1) * 3
    · rw [List.getElem?_take_of_lt hj2]
      rcases (by omega : j = fs.length * 3 ∨ j = fs.length * 3 + 1 ∨ j = fs.length * 3 + 2) with rfl | rfl | rfl
      · rw [Nat.sub_self]; simpa using k0
      · rw [Nat.add_sub_cancel_left]; simpa using k1
      · rw [Nat.add_sub_cancel_left]; simpa using k2
    · rw [List.getElem?_eq_none (by rw [List.length_take]; omega), List.getElem?_eq_none (by simp only [List.length_cons, List.length_nil]; omega)]

theorem nrow_pop {w : World} {B g cap : Nat} {cur : Array Value} {f : Nfm} {fs : List Nfm} (hB : B ≤ g) (h1 : w.heap[g]? = some (.cells cur 123 (0, 0))) (h2 : fs.length + 1 ≤ cap) (h3 : cap ≤ maxLen) (h4 : cur.size = cap * 3) (h5 : cur.toList.take ((fs.length + 1) * 3) = ncells (f :: fs)) :
    w.ownsRow B 123 3 (.slice (some ⟨g, 0, none⟩) fs.length cap) fs.length (ncells fs) := by
  refine ⟨ncells_len fs, .inr ⟨g, cap, cur, rfl, hB, h1, by omega, h3, h4, ?_⟩⟩
  have := congrArg (List.take (fs.length * 3)) h5
  rw [List.take_take, Nat.min_eq_left (by omega), ncells_cons, List.take_append_of_le_length (by rw [ncells_len]; exact Nat.le_refl _)] at this
  rw [this, List.take_of_length_le (by rw [ncells_len]; exact Nat.le_refl _)]

theorem eqPtrExpr (w : World) (x y : Addr) (hx : Plain w x) (hy : Plain w y) (d : Nat) : (Op.equalIn (d + 1) 69 (.pointer (some x)) (.pointer (some y))).run Try.prog w = .ok (decide (x = y)) w := by
  obtain ⟨i0, hi, hi0, hi1, hi2⟩ := info_parts Try.infoExpr
  by_cases h : x = y
  · subst h
    simp [Op.equalIn, run_underlying Try.underlying69, sizeOf, typeInfo, hi, run_sameAddr_same]
  · obtain ⟨c1, t1, h1⟩ := hx
    obtain ⟨c2, t2, h2⟩ := hy
    have hz : i0.size ≠ 0 := by rw [hi1]; decide
    simp [Op.equalIn, run_underlying Try.underlying69, sizeOf, typeInfo, hi, hz, run_sameAddr_other w h h1 h2, h]

theorem eqSpotX (w : World) (x y : Addr) (n m : Int) (hx : Plain w x) (hy : Plain w y) (d : Nat) : (Op.equalIn (d + 1 + 1) 113 (skey x n) (skey y m)).run Try.prog w = .ok (decide (x = y ∧ n = m)) w := by
  have hp := eqPtrExpr w x y hx hy d
  have hn := eqInt3 w n m d
  unfold skey
  rw [Op.equalIn]
  simp only [Sem.run_bind, run_underlying Try.underlying113, Result.andThen_ok]
  by_cases h : x = y
  · by_cases h2 : n = m
    · subst h h2
      simp [part, Try.isAgg69, Try.isAgg3, hp, hn, Result.andThen]
    · subst h
      simp [part, Try.isAgg69, Try.isAgg3, hp, hn, h2, Result.andThen]
  · simp [part, Try.isAgg69, hp, h, Result.andThen]

theorem chkSpotX (w : World) (em : Bool) (x : Addr) (n : Int) (d : Nat) : (Instr.checkKey em (d + 1 + 1) 113 (skey x n)).run Try.prog w = .ok () w := by
  have h1 : (Instr.checkKey em (d + 1) 69 (.pointer (some x))).run Try.prog w = .ok () w := by
    rw [Instr.checkKey]; simp [run_underlying Try.underlying69]
  have h2 : (Instr.checkKey em (d + 1) 3 (.int .i64 n)).run Try.prog w = .ok () w := by
    rw [Instr.checkKey]; simp [run_underlying Try.underlying3]
  unfold skey
  rw [Instr.checkKey]
  simp [run_underlying Try.underlying113, part, Try.isAgg69, Try.isAgg3, h1, h2, Result.andThen]

theorem spotExpr : SpotTy Try.prog 113 where
  wide := by rw [Try.underlying113]
  eq := fun w x y n m hx hy => eqSpotX w x y n m hx hy 9998
  chk := fun w em x n => chkSpotX w em x n 9998

theorem spotOfX_any (b o n c : Nat) (w : World) (hn : 0 < n) (hn1 : n ≤ 9223372036854775807) : Calls Try.prog 75 #[.slice (some ⟨b, o, none⟩) n c] w fun e w' => e = .returned (.agg #[.pointer (some ⟨b, o, none⟩), .int .i64 n]) ∧ Below w.heap.size w w' := by
  go_enter Try.func75, Try.ntmps75
  go_wp2
  refine bodyPost_ret (v := .agg #[.pointer (some ⟨b, o, none⟩), .int .i64 n]) (by first | (simp [results, Try.results75, go_sem]; done) | (simp [results, Try.results75, go_sem]; rfl)) rfl ⟨rfl, ?_⟩
  exact (Below.refl _ _).alloc (Nat.le_refl _) _

theorem Try.infoNaming : (Try.prog.info? 123).map (fun i => (i.zero, i.size, i.bytes)) = some (some (.agg #[.slice none 0 0, .int .i64 0, .int .i64 0]), 3, 40) := by kernel_rfl

/-- How much work an expression is. -/
def wkX : (d : Nat) → Ex d → Nat
  | 0, _ => 2
  | d + 1, e => 2 + (e.E.map (wkX d)).sum

theorem wkX_le : ∀ (d : Nat) (e : Ex d), wkX d e ≤ 2 + 2 * szX d e := by
  intro d
  induction d with
  | zero => intro e; exact Nat.le_add_right _ _
  | succ d ih =>
    intro e
    have h2 : (e.E.map (wkX d)).sum ≤ 2 * szRow (szX d) e.E := by
      unfold szRow
      generalize e.E = l
      induction l with
      | nil => exact Nat.zero_le _
      | cons x l ihl => simp only [List.map_cons, List.sum_cons, List.length_cons]; have := ih x; omega
    show 2 + (e.E.map (wkX d)).sum ≤ 2 + 2 * (e.S.size + szRow (szX d) e.E + szRow (ClF (szX d)) e.C)
    omega

/-- A list under way: what is left of it: its blocks, its work, its names. -/
def FrN (W : World) (M : Nat) (v : Value) (nx : Nat) (rem : List Nat) (R : Nat) (ns : List ByteArray) : Prop :=
  ∃ (d : Nat) (es : List (Ex d)) (g c : Nat) (cur : Array Value) (fps : List (List Nat)), v = .slice (some ⟨g, 0, none⟩) es.length c ∧ 0 < es.length ∧ es.length ≤ 1048576 ∧ W.heap[g]? = some (.cells cur 27 (0, 0)) ∧ g ≠ M ∧ fps.length = es.length ∧
    (∀ (i : Nat) (x : Ex d), es[i]? = some x → ∃ vs f, fps[i]? = some f ∧ vs.length = 5 ∧ (∀ (j : Nat) (u : Value), vs[j]? = some u → cur[i * 5 + j]? = some u) ∧ ExO d W vs x f ∧ szX d x ≤ 1048576) ∧
    nx ≤ es.length ∧ rem = (fps.drop nx).flatten ∧ R = ((es.drop nx).map (wkX d)).sum ∧ ns = (es.drop nx).flatMap (vars d)

theorem FrN.slice {W : World} {M : Nat} {v : Value} {nx : Nat} {rem : List Nat} {R : Nat} {ns : List ByteArray} (h : FrN W M v nx rem R ns) : ∃ g len c cur, v = .slice (some ⟨g, 0, none⟩) len c ∧ nx ≤ len ∧ 0 < len ∧ len ≤ 1048576 ∧ W.heap[g]? = some (.cells cur 27 (0, 0)) ∧ g ≠ M := by
  obtain ⟨d, es, g, c, cur, fps, h1, h2, h3, h4, h5, h6, h7, h8, _⟩ := h
  exact ⟨g, _, c, cur, h1, h8, h2, h3, h4, h5⟩

theorem FrN.done {W : World} {M g len c nx : Nat} {rem : List Nat} {R : Nat} {ns : List ByteArray} (h : FrN W M (.slice (some ⟨g, 0, none⟩) len c) nx rem R ns) (hn : nx = len) : rem = [] ∧ R = 0 ∧ ns = [] := by
  obtain ⟨d, es, g', c', cur, fps, h1, h2, h3, h4, h5, h6, h7, h8, rfl, rfl, rfl⟩ := h
  simp only [Value.slice.injEq] at h1
  have e1 : es.drop nx = [] := List.drop_eq_nil_of_le (by omega)
  have e2 : fps.drop nx = [] := List.drop_eq_nil_of_le (by omega)
  rw [e1, e2]
  exact ⟨rfl, rfl, rfl⟩

/-- What is next in a list under way. -/
theorem FrN.next {W : World} {M g len c nx : Nat} {rem : List Nat} {R : Nat} {ns : List ByteArray} (hM : ∀ x ∈ rem, x ≠ M) (h : FrN W M (.slice (some ⟨g, 0, none⟩) len c) nx rem R ns) (hn : nx < len) :
    ∃ (k n : Int) (s : ByteArray) (a3 : Option Addr) (l3 c3 : Nat) (v4 : Value) (cur : Array Value) (f rem' : List Nat) (R1 R' : Nat) (nE ns' : List ByteArray), W.heap[g]? = some (.cells cur 27 (0, 0)) ∧ cur[nx * 5]? = some (.int .i64 k) ∧ cur[nx * 5 + 1]? = some (.int .i64 n) ∧ cur[nx * 5 + 2]? = some (.string s) ∧ cur[nx * 5 + 3]? = some (.slice a3 l3 c3) ∧ cur[nx * 5 + 4]? = some v4 ∧ s.size ≤ 1048576 ∧ l3 ≤ 1048576 ∧
      rem = f ++ rem' ∧ R = R1 + R' ∧ 2 ≤ R1 ∧ ns = ownName k s ++ nE ++ ns' ∧ FrN W M (.slice (some ⟨g, 0, none⟩) len c) (nx + 1) rem' R' ns' ∧
      ((l3 = 0 ∧ nE = []) ∨ ∃ g' remE f2, 0 < l3 ∧ a3 = some ⟨g', 0, none⟩ ∧ f = g' :: (remE ++ f2) ∧ R1 = 2 + (R1 - 2) ∧ FrN W M (.slice (some ⟨g', 0, none⟩) l3 c3) 0 remE (R1 - 2) nE) := by
  obtain ⟨d, es, g', c', cur, fps, h1, h2, h3, h4, h5, h6, h7, h8, rfl, rfl, rfl⟩ := h
  simp only [Value.slice.injEq, Option.some.injEq, Addr.mk.injEq, and_true] at h1
  obtain ⟨rfl, rfl, rfl⟩ := h1
  have hd : es.drop nx = es[nx] :: es.drop (nx + 1) := List.drop_eq_getElem_cons hn
  have hf : fps.drop nx = fps[nx]'(by omega) :: fps.drop (nx + 1) := List.drop_eq_getElem_cons (by omega)
  obtain ⟨vs, f, e1, e2, e3, e4, e5⟩ := h7 nx es[nx] (List.getElem?_eq_getElem hn)
  have ef : fps[nx]'(by omega) = f := by rw [List.getElem?_eq_getElem (by omega)] at e1; exact Option.some.inj e1
  rw [hf, ef] at hM
  rw [hd, hf, ef]
  generalize es[nx] = x at e4 e5
  have hfr : ∀ {ns0}, ns0 = (es.drop (nx + 1)).flatMap (vars d) → FrN W M (.slice (some ⟨g, 0, none⟩) es.length c) (nx + 1) (fps.drop (nx + 1)).flatten ((es.drop (nx + 1)).map (wkX d)).sum ns0 := fun h => ⟨d, es, g, c, cur, fps, rfl, h2, h3, h4, h5, h6, h7, hn, rfl, rfl, h⟩
  cases d with
  | zero => exact e4.elim
  | succ d =>
    obtain ⟨ve, vc, f1, f2, rfl, rfl, o1, o2⟩ := e4
    have hz : x.S.size + szRow (szX d) x.E + szRow (ClF (szX d)) x.C ≤ 1048576 := e5
    obtain ⟨a3, c3, rfl⟩ := (o1.rd (ExO.reads d)).slice
    have hl3 : x.E.length ≤ szRow (szX d) x.E := Nat.le_add_right _ _
    refine ⟨x.K, x.N, x.S, a3, x.E.length, c3, vc, cur, f1 ++ f2, _, wkX (d + 1) x, _, x.E.flatMap (vars d), _, h4, e3 0 _ rfl, e3 1 _ rfl, e3 2 _ rfl, e3 3 _ rfl, e3 4 _ rfl, by omega, by omega, by rw [List.flatten_cons], by rw [List.map_cons, List.sum_cons], by show 2 ≤ 2 + _; omega, by rw [List.flatMap_cons]; rfl, hfr rfl, ?_⟩
    rcases o1 with ⟨q1, q2, _⟩ | ⟨g', c0, cur', fps', q1, q2, q3, q4, q5⟩
    · exact .inl ⟨by rw [q1]; rfl, by rw [q1]; rfl⟩
    · simp only [Value.slice.injEq] at q1
      obtain ⟨rfl, _, rfl⟩ := q1
      by_cases h0 : x.E.length = 0
      · exact .inl ⟨h0, by rw [List.length_eq_zero_iff.1 h0]; rfl⟩
      · subst q4
        refine .inr ⟨g', fps'.flatten, f2, by omega, rfl, by simp, by show 2 + _ = 2 + (2 + _ - 2); omega, d, x.E, g', c3, cur', fps', rfl, by omega, by omega, q2, hM g' (by simp), q3.1, fun i y hy => ?_, Nat.zero_le _, by rw [List.drop_zero], by rw [List.drop_zero]; show 2 + _ - 2 = _; omega, by rw [List.drop_zero]⟩
        obtain ⟨vs', f', r1, r2, r3, r4⟩ := q5 i y hy
        exact ⟨vs', f', r1, r2, r3, r4, by have := szRow_mem (f := szX d) hy; omega⟩

/-- The lists under way, the innermost first. -/
def SkN (W : World) (M : Nat) : List Nfm → List Nat → Nat → List ByteArray → Prop
  | [], rem, R, ns => rem = [] ∧ R = 0 ∧ ns = []
  | (v, nx, ah) :: rest, rem, R, ns => ∃ r1 R1 n1 r2 R2 n2, FrN W M v nx r1 R1 n1 ∧ SkN W M rest r2 R2 n2 ∧ rem = r1 ++ r2 ∧ R = R1 + 1 + R2 ∧ ns = n1 ++ n2 ∧ ah ≤ 2097152

theorem SkN.few {W : World} {M : Nat} : ∀ {fs : List Nfm} {rem : List Nat} {R : Nat} {ns : List ByteArray}, SkN W M fs rem R ns → fs.length ≤ R
  | [], _, _, _, _ => Nat.zero_le _
  | (v, nx, ah) :: rest, rem, R, ns, ⟨r1, R1, n1, r2, R2, n2, h1, h2, h3, h4, h5, h6⟩ => by
    have := h2.few
    simp only [List.length_cons]
    omega

end Go.Proofs.Ytpokheklplcamaa

/- A walk through an expression for its names: how it stands, and how it goes on. -/
namespace Go.Proofs.Ytpokheklplcamaa
open Go.RowKit
set_option linter.unusedVariables false

/-- What lies in memory. -/
structure Phys (W wr : World) (M : Nat) (names under : Value) (fs : List Nfm) (f : Addr → Int → Option Value) (acc : List ByteArray) : Prop where
  kept : Kept M (M + 1) W wr
  map : SMap wr M f
  row : StrRow wr W.heap.size names acc
  und : wr.ownsRow W.heap.size 123 3 under fs.length (ncells fs)
  apart : ∀ g, names.ownBlock = some g → under.ownBlock ≠ some g
  keys : ∀ x n v, f x n = some v → x.block < W.heap.size ∧ x.block ≠ M
  mlt : M < W.heap.size

theorem own_blk {w : World} {B e z n : Nat} {v : Value} {xs : List Value} (h : w.ownsRow B e z v n xs) : ∀ g, v.ownBlock = some g → B ≤ g ∧ g < w.heap.size := fun g hg => by
  rcases h.2 with ⟨e, _⟩ | ⟨g', c', cur, e1, e2, e3, _⟩
  · rw [e] at hg; cases hg
  · rw [e1] at hg
    obtain rfl : g' = g := by simpa [Value.ownBlock] using hg
    exact ⟨e2, lt_row e3⟩

theorem Phys.move {W wr w' : World} {M : Nat} {names under names' under' : Value} {fs fs' : List Nfm} {f : Addr → Int → Option Value} {acc acc' : List ByteArray} (h : Phys W wr M names under fs f acc) (hb : Below W.heap.size wr w') (hrow : StrRow w' W.heap.size names' acc') (hund : w'.ownsRow W.heap.size 123 3 under' fs'.length (ncells fs')) (hap : ∀ g, names'.ownBlock = some g → under'.ownBlock ≠ some g) : Phys W w' M names' under' fs' f acc' :=
  ⟨⟨hb.os.trans h.kept.os, hb.tape.trans h.kept.tape, hb.output.trans h.kept.output, Nat.le_trans h.kept.size hb.size, fun g hg hpq => (hb.block g hg).trans (h.kept.block g hg hpq)⟩, h.map.kept (hb.block M h.mlt) (fun x n v hv ⟨c, t, hx⟩ => ⟨c, t, (hb.block _ (h.keys x n v hv).1).trans hx⟩), hrow, hund, hap, h.keys, h.mlt⟩

theorem Phys.later {W wr w' : World} {M : Nat} {names under : Value} {fs : List Nfm} {f : Addr → Int → Option Value} {acc : List ByteArray} (h : Phys W wr M names under fs f acc) (hb : Below wr.heap.size wr w') : Phys W w' M names under fs f acc :=
  h.move (hb.mono h.kept.size) (h.row.kept fun g hg => hb.block g (h.row.blk g hg).2) (rowKept h.und fun g hg => hb.block g (own_blk h.und g hg).2) h.apart

theorem Phys.turn {W wr : World} {M u cap : Nat} {names v : Value} {nx ah : Nat} {rest : List Nfm} {f : Addr → Int → Option Value} {acc : List ByteArray} (h : Phys W wr M names (.slice (some ⟨u, 0, none⟩) (rest.length + 1) cap) ((v, nx, ah) :: rest) f acc) :
    Phys W (wr.setCell ⟨u, rest.length * 3 + 1, none⟩ (.int .i64 (nx + 1 : Nat))) M names (.slice (some ⟨u, 0, none⟩) (rest.length + 1) cap) ((v, nx + 1, ah) :: rest) f acc := by
  obtain ⟨g, cap', cur, e, hg0, hg, hg1, hg2, hg3, hg4, k0, k1, k2⟩ := nrow_top h.und
  simp only [Value.slice.injEq, Option.some.injEq, Addr.mk.injEq, and_true, true_and] at e
  obtain ⟨rfl, rfl⟩ := e
  have hh := heap_setCell_same wr u (rest.length * 3 + 1) cur 123 (.int .i64 (nx + 1 : Nat)) hg
  refine h.move ((Below.refl _ _).setCell (p := ⟨u, rest.length * 3 + 1, none⟩) hg0 _) (h.row.kept fun g hgn => by
    have hne : u ≠ g := fun e => h.apart g hgn (by rw [← e]; rfl)
    exact heap_setCell_other _ _ _ _ (by simp; omega)) ?_ h.apart
  refine nrow_turn (f' := (v, nx + 1, ah)) hg0 hg1 hg2 hg3 hg4 hh (by simp) (fun j hj => by rw [Array.getElem?_setIfInBounds_ne (by omega)]) ?_ ?_ ?_
  · rw [Array.getElem?_setIfInBounds_ne (by omega)]; exact k0
  · rw [Array.getElem?_setIfInBounds_self_of_lt (by omega)]
  · rw [Array.getElem?_setIfInBounds_ne (by omega)]; exact k2

theorem grown_low {B : Nat} {a b : World} {p : Option Nat} (h : a.grownBy b p) (hp : ∀ g, p = some g → B ≤ g) (hB : B ≤ a.heap.size) : Below B a b :=
  ⟨h.os, h.tape, h.output, h.size, fun g hg => h.block g (by omega) (fun e => by have := hp g e.symm; omega)⟩

theorem Phys.app {W wr w2 : World} {M : Nat} {names under v' : Value} {fs : List Nfm} {f : Addr → Int → Option Value} {acc m : List ByteArray} (h : Phys W wr M names under fs f acc) (hown : w2.ownsRow W.heap.size 9 1 v' (acc.length + m.length) (acc.map Value.string ++ m.map Value.string)) (hg : wr.grownBy w2 names.ownBlock) (hat : v'.ownBlock = names.ownBlock ∨ v'.ownBlock = some wr.heap.size) : Phys W w2 M v' under fs f (acc ++ m) := by
  refine h.move (grown_low hg (fun g hg' => (h.row.blk g hg').1) h.kept.size) ?_ (rowKept h.und fun g hu => hg.block g (own_blk h.und g hu).2 fun e => h.apart g e.symm hu) (fun g hg' hu => ?_)
  · unfold StrRow
    rw [List.length_append, List.map_append]
    exact hown
  · rcases hat with e | e
    · rw [e] at hg'; exact h.apart g hg' hu
    · rw [e] at hg'
      have := (own_blk h.und g hu).2
      simp only [Option.some.injEq] at hg'
      omega

theorem Phys.push {W Z w4 : World} {M : Nat} {names under v' lv : Value} {ah : Nat} {fs : List Nfm} {f : Addr → Int → Option Value} {acc : List ByteArray} (h : Phys W Z M names under fs f acc) (hown : w4.ownsRow W.heap.size 123 3 v' (fs.length + 1) (ncells fs ++ [lv, .int .i64 0, .int .i64 (ah : Nat)])) (hg : Z.grownBy w4 under.ownBlock) (hat : v'.ownBlock = under.ownBlock ∨ v'.ownBlock = some Z.heap.size) : Phys W w4 M names v' ((lv, 0, ah) :: fs) f acc := by
  refine h.move (grown_low hg (fun g hg' => (own_blk h.und g hg').1) h.kept.size) (h.row.kept fun g hn => hg.block g (h.row.blk g hn).2 fun e => h.apart g hn e.symm) (by rw [ncells_cons]; exact hown) (fun g hn hu => ?_)
  rcases hat with e | e
  · rw [e] at hu; exact h.apart g hn hu
  · rw [e] at hu
    have := (h.row.blk g hn).2
    simp only [Option.some.injEq] at hu
    omega

theorem Phys.store {W wr w6 : World} {M : Nat} {names under : Value} {fs : List Nfm} {f f' : Addr → Int → Option Value} {acc : List ByteArray} (h : Phys W wr M names under fs f acc) (hT : wr.mapTurned w6 M) (hS : SMap w6 M f') (hk : ∀ x n v, f' x n = some v → x.block < W.heap.size ∧ x.block ≠ M) : Phys W w6 M names under fs f' acc := by
  have hg := hT.grown
  have hm := h.mlt
  refine ⟨⟨hg.os.trans h.kept.os, hg.tape.trans h.kept.tape, hg.output.trans h.kept.output, Nat.le_trans h.kept.size hg.size, fun g hg' hpq => (hg.block g (Nat.lt_of_lt_of_le hg' h.kept.size) (by simp; omega)).trans (h.kept.block g hg' hpq)⟩, hS, h.row.kept fun g hn => hg.block g (h.row.blk g hn).2 (by have := (h.row.blk g hn).1; simp; omega), rowKept h.und fun g hn => hg.block g (own_blk h.und g hn).2 (by have := (own_blk h.und g hn).1; simp; omega), h.apart, hk, h.mlt⟩

theorem Phys.pop {W wr : World} {M u cap : Nat} {names v : Value} {nx ah : Nat} {rest : List Nfm} {f : Addr → Int → Option Value} {acc : List ByteArray} (h : Phys W wr M names (.slice (some ⟨u, 0, none⟩) (rest.length + 1) cap) ((v, nx, ah) :: rest) f acc) : Phys W wr M names (.slice (some ⟨u, 0, none⟩) rest.length cap) rest f acc := by
  obtain ⟨g, cap', cur, e, hg0, hg, hg1, hg2, hg3, hg4, k0, k1, k2⟩ := nrow_top h.und
  simp only [Value.slice.injEq, Option.some.injEq, Addr.mk.injEq, and_true, true_and] at e
  obtain ⟨rfl, rfl⟩ := e
  exact h.move (Below.refl _ _) h.row (nrow_pop hg0 hg hg1 hg2 hg3 hg4) h.apart

/-- A place in memory that the walk leaves as it is. -/
theorem Phys.at {W wr : World} {M : Nat} {names under : Value} {fs : List Nfm} {f : Addr → Int → Option Value} {acc : List ByteArray} (h : Phys W wr M names under fs f acc) {g : Nat} {o : Obj} (hg : W.heap[g]? = some o) (hM : g ≠ M) : wr.heap[g]? = some o :=
  (h.kept.block g (lt_row hg) (by omega)).trans hg

def upd (f : Addr → Int → Option Value) (x : Addr) (n : Int) (v : Value) : Addr → Int → Option Value := fun y m => if y = x ∧ m = n then some v else f y m

/-- What is told of what lies there. -/
structure Logic (W : World) (M : Nat) (tot : List ByteArray) (fs : List Nfm) (R : Nat) (f : Addr → Int → Option Value) (rem : List Nat) (acc rst : List ByteArray) : Prop where
  keys : ∀ x n v, f x n = some v → x.block ∉ rem
  stk : SkN W M fs rem R rst
  nd : rem.Nodup
  sum : acc ++ rst = tot
  low : ∀ g ∈ rem, g ≠ M ∧ g < W.heap.size
  own : ∀ fr ∈ fs, ∀ g, fr.1.ownBlock = some g → g ∉ rem
  less : tot.length ≤ 1048577

theorem Logic.fin {W : World} {M : Nat} {tot : List ByteArray} {R : Nat} {f : Addr → Int → Option Value} {rem : List Nat} {acc rst : List ByteArray} (h : Logic W M tot [] R f rem acc rst) : acc = tot := by
  have h1 := h.stk.2.2
  have h2 := h.sum
  rw [h1, List.append_nil] at h2
  exact h2

theorem Logic.pop {W : World} {M : Nat} {tot : List ByteArray} {g len c ah R : Nat} {rest : List Nfm} {f : Addr → Int → Option Value} {rem : List Nat} {acc rst : List ByteArray} (h : Logic W M tot ((.slice (some ⟨g, 0, none⟩) len c, len, ah) :: rest) R f rem acc rst) (val : Value) : 0 < R ∧ Logic W M tot rest (R - 1) (upd f ⟨g, 0, none⟩ len val) rem acc rst := by
  obtain ⟨r1, R1, n1, r2, R2, n2, h1, h2, h3, h4, h5, h6⟩ := h.stk
  obtain ⟨rfl, rfl, rfl⟩ := h1.done rfl
  rw [List.nil_append] at h3 h5
  subst h3 h5
  refine ⟨by omega, fun x n v hv => ?_, by rw [show R - 1 = R2 by omega]; exact h2, h.nd, h.sum, h.low, fun fr hfr => h.own fr (List.mem_cons_of_mem _ hfr), h.less⟩
  unfold upd at hv
  by_cases e : x = ⟨g, 0, none⟩ ∧ n = (len : Int)
  · rw [e.1]; exact h.own _ (List.mem_cons_self ..) g rfl
  · rw [if_neg e] at hv; exact h.keys x n v hv

theorem Logic.next {W : World} {M : Nat} {tot : List ByteArray} {g len c nx ah R : Nat} {rest : List Nfm} {f : Addr → Int → Option Value} {rem : List Nat} {acc rst : List ByteArray} (h : Logic W M tot ((.slice (some ⟨g, 0, none⟩) len c, nx, ah) :: rest) R f rem acc rst) (hn : nx < len) :
    ∃ (k n : Int) (s : ByteArray) (a3 : Option Addr) (l3 c3 : Nat) (v4 : Value) (cur : Array Value), W.heap[g]? = some (.cells cur 27 (0, 0)) ∧ cur[nx * 5]? = some (.int .i64 k) ∧ cur[nx * 5 + 1]? = some (.int .i64 n) ∧ cur[nx * 5 + 2]? = some (.string s) ∧ cur[nx * 5 + 3]? = some (.slice a3 l3 c3) ∧ cur[nx * 5 + 4]? = some v4 ∧ s.size ≤ 1048576 ∧ l3 ≤ 1048576 ∧ (acc ++ ownName k s).length ≤ 1048577 ∧
      (l3 = 0 → ∃ R' rem' rst', R' < R ∧ Logic W M tot ((.slice (some ⟨g, 0, none⟩) len c, nx + 1, ah) :: rest) R' f rem' (acc ++ ownName k s) rst') ∧
      (0 < l3 → ∃ g' cur', a3 = some ⟨g', 0, none⟩ ∧ W.heap[g']? = some (.cells cur' 27 (0, 0)) ∧ g' ≠ M ∧ (∀ m, f ⟨g', 0, none⟩ m = none) ∧ 0 < R ∧
        ∀ val, ∃ rem' rst', Logic W M tot ((.slice (some ⟨g', 0, none⟩) l3 c3, 0, (acc ++ ownName k s).length) :: (.slice (some ⟨g, 0, none⟩) len c, nx + 1, ah) :: rest) (R - 1) (upd f ⟨g', 0, none⟩ l3 val) rem' (acc ++ ownName k s) rst') := by
  obtain ⟨r1, R1, n1, r2, R2, n2, h1, h2, rfl, rfl, rfl, h6⟩ := h.stk
  obtain ⟨k, n, s, a3, l3, c3, v4, cur, fe, rem', Re, R', nE, ns', q0, q1, q2, q3, q4, q5, q6, q7, rfl, rfl, hRe, rfl, q8, q9⟩ := h1.next (fun x hx => (h.low x (List.mem_append_left _ hx)).1) hn
  have hsum := h.sum
  have hlen : (acc ++ ownName k s).length ≤ 1048577 := by
    have := congrArg List.length hsum
    simp only [List.length_append] at this ⊢
    have := h.less
    omega
  refine ⟨k, n, s, a3, l3, c3, v4, cur, q0, q1, q2, q3, q4, q5, q6, q7, hlen, fun h0 => ?_, fun h0 => ?_⟩
  · have hnE : nE = [] := by
      rcases q9 with ⟨_, e⟩ | ⟨_, _, _, e, _⟩
      · exact e
      · omega
    subst hnE
    have hsub : (rem' ++ r2).Sublist (fe ++ rem' ++ r2) := by rw [List.append_assoc]; exact List.sublist_append_right _ _
    refine ⟨R' + 1 + R2, rem' ++ r2, ns' ++ n2, by omega, fun x m v hv hx => h.keys x m v hv (hsub.subset hx), ⟨rem', R', ns', r2, R2, n2, q8, h2, rfl, rfl, rfl, h6⟩, h.nd.sublist hsub, ?_, fun x hx => h.low x (hsub.subset hx), fun fr hfr x hx hm => ?_, h.less⟩
    · rw [← hsum]; simp
    · rcases List.mem_cons.1 hfr with rfl | hfr
      · exact h.own _ (List.mem_cons_self ..) x hx (hsub.subset hm)
      · exact h.own fr (List.mem_cons_of_mem _ hfr) x hx (hsub.subset hm)
  · rcases q9 with ⟨e, _⟩ | ⟨g', remE, f2, _, rfl, rfl, e2, hF⟩
    · omega
    · have hsub : (remE ++ (rem' ++ r2)).Sublist (g' :: (remE ++ f2) ++ rem' ++ r2) := by
        simp only [List.cons_append, List.append_assoc]
        exact List.Sublist.cons _ (List.Sublist.append (List.Sublist.refl _) (List.sublist_append_right _ _))
      have hgo : g' ∈ (g' :: (remE ++ f2) ++ rem' ++ r2) := by simp
      have hgn : g' ∉ remE ++ (rem' ++ r2) := by
        have := h.nd
        simp only [List.cons_append, List.append_assoc, List.nodup_cons, List.mem_append, not_or] at this
        simp only [List.mem_append, not_or]
        exact ⟨this.1.1, this.1.2.2⟩
      obtain ⟨g2, len2, c2, cur', e3, _, _, _, e4, e5⟩ := hF.slice
      simp only [Value.slice.injEq, Option.some.injEq, Addr.mk.injEq, and_true] at e3
      obtain ⟨rfl, _, _⟩ := e3
      refine ⟨g', cur', rfl, e4, e5, fun m => ?_, by omega, fun val => ⟨remE ++ (rem' ++ r2), nE ++ (ns' ++ n2), fun x m v hv hx => ?_, ⟨remE, Re - 2, nE, rem' ++ r2, R' + 1 + R2, ns' ++ n2, hF, ⟨rem', R', ns', r2, R2, n2, q8, h2, rfl, rfl, rfl, h6⟩, rfl, by omega, rfl, by omega⟩, h.nd.sublist hsub, ?_, fun x hx => h.low x (hsub.subset hx), fun fr hfr x hx hm => ?_, h.less⟩⟩
      · cases hv : f ⟨g', 0, none⟩ m with
        | none => rfl
        | some v => exact absurd hgo (h.keys _ m v hv)
      · unfold upd at hv
        by_cases e : x = ⟨g', 0, none⟩ ∧ m = (l3 : Int)
        · rw [e.1] at hx; exact hgn hx
        · rw [if_neg e] at hv; exact h.keys x m v hv (hsub.subset hx)
      · rw [← hsum]; simp
      · rcases List.mem_cons.1 hfr with rfl | hfr
        · simp only [Value.ownBlock, Option.some.injEq] at hx
          subst hx
          exact hgn hm
        · rcases List.mem_cons.1 hfr with rfl | hfr
          · exact h.own _ (List.mem_cons_self ..) x hx (hsub.subset hm)
          · exact h.own fr (List.mem_cons_of_mem _ hfr) x hx (hsub.subset hm)

end Go.Proofs.Ytpokheklplcamaa
