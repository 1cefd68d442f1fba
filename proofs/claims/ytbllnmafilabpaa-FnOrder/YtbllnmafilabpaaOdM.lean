/- The program's comparison of two terms of the same fields: how it stands. -/
import Derived.Test.YtbllnmafilabpaaOhM
import Derived.Test.YtbllnmafilabpaaMOf4M
import Derived.Deep.DeepCutAuto
import Derived.Deep.CutRange
import Derived.BigQuiet
import Derived.Test.YtbllnmafilabpaaLookM
namespace Go.Proofs.Ytbllnmafilabpaa
open Go.RowKit
set_option linter.unusedVariables false

abbrev Ofm := Value × Value × Nat

def ocells (fs : List Ofm) : List Value := (fs.reverse.map fun f => [f.1, f.2.1, .int .i64 (f.2.2 : Nat)]).flatten

theorem ocells_cons (f : Ofm) (fs : List Ofm) : ocells (f :: fs) = ocells fs ++ [f.1, f.2.1, .int .i64 (f.2.2 : Nat)] := by
  unfold ocells
  simp

theorem ocells_len (fs : List Ofm) : (ocells fs).length = fs.length * 3 := by
  induction fs with
  | nil => rfl
  | cons f fs ih => rw [ocells_cons, List.length_append, ih]; simp only [List.length_cons, List.length_nil]; omega

theorem orow_top {w : World} {B : Nat} {v : Value} {f : Ofm} {fs : List Ofm} (h : w.ownsRow B 74 3 v (fs.length + 1) (ocells (f :: fs))) : ∃ g cap cur, v = .slice (some ⟨g, 0, none⟩) (fs.length + 1) cap ∧ B ≤ g ∧ w.heap[g]? = some (.cells cur 74 (0, 0)) ∧ fs.length + 1 ≤ cap ∧ cap ≤ maxLen ∧ cur.size = cap * 3 ∧ cur.toList.take ((fs.length + 1) * 3) = ocells (f :: fs) ∧
    cur[fs.length * 3]? = some f.1 ∧ cur[fs.length * 3 + 1]? = some f.2.1 ∧ cur[fs.length * 3 + 2]? = some (.int .i64 (f.2.2 : Nat)) := by
  rcases h.2 with ⟨_, h0⟩ | ⟨g, cap, cur, e1, e2, e3, e4, e5, e6, e7⟩
  · omega
  · have hj : ∀ j u, [f.1, f.2.1, .int .i64 (f.2.2 : Nat)][j]? = some u → cur[fs.length * 3 + j]? = some u := by
      intro j u hu
      have hjl : j < 3 := by
        have := (List.getElem?_eq_some_iff.1 hu).1
        simpa using this
      have h1 : (cur.toList.take ((fs.length + 1) * 3))[fs.length * 3 + j]? = some u := by
        rw [e7, ocells_cons, List.getElem?_append_right (by rw [ocells_len]; omega), ocells_len, show fs.length * 3 + j - fs.length * 3 = j from by omega]
        exact hu
      rw [List.getElem?_take_of_lt (by omega)] at h1
      simpa using h1
    exact ⟨g, cap, cur, e1, e2, e3, e4, e5, e6, e7, hj 0 _ rfl, hj 1 _ rfl, hj 2 _ rfl⟩

theorem orow_turn {w' : World} {B g cap : Nat} {cur cur' : Array Value} {f f' : Ofm} {fs : List Ofm} (hB : B ≤ g) (h2 : fs.length + 1 ≤ cap) (h3 : cap ≤ maxLen) (h4 : cur.size = cap * 3) (h5 : cur.toList.take ((fs.length + 1) * 3) = ocells (f :: fs))
    (h6 : w'.heap[g]? = some (.cells cur' 74 (0, 0))) (h7 : cur'.size = cur.size) (h8 : ∀ j, j < fs.length * 3 → cur'[j]? = cur[j]?) (k0 : cur'[fs.length * 3]? = some f'.1) (k1 : cur'[fs.length * 3 + 1]? = some f'.2.1) (k2 : cur'[fs.length * 3 + 2]? = some (.int .i64 (f'.2.2 : Nat))) :
    w'.ownsRow B 74 3 (.slice (some ⟨g, 0, none⟩) (fs.length + 1) cap) (fs.length + 1) (ocells (f' :: fs)) := by
  refine ⟨by rw [ocells_len]; rfl, .inr ⟨g, cap, cur', rfl, hB, h6, h2, h3, h7.trans h4, ?_⟩⟩
  rw [ocells_cons]
  apply List.ext_getElem?
  intro j
  rw [ocells_cons] at h5
  by_cases hj : j < fs.length * 3
  · rw [List.getElem?_take_of_lt (by omega), List.getElem?_append_left (by rw [ocells_len]; exact hj)]
    have := congrArg (fun l => l[j]?) h5
    rw [List.getElem?_take_of_lt (by omega), List.getElem?_append_left (by rw [ocells_len]; exact hj)] at this
    rw [← this]
    have := h8 j hj
    simpa using this
  · rw [List.getElem?_append_right (by rw [ocells_len]; omega), ocells_len]
    by_cases hj2 : j < (fs.length + 1) * 3
    · rw [List.getElem?_take_of_lt hj2]
      rcases (by omega : j = fs.length * 3 ∨ j = fs.length * 3 + 1 ∨ j = fs.length * 3 + 2) with rfl | rfl | rfl
      · rw [Nat.sub_self]; simpa using k0
      · rw [Nat.add_sub_cancel_left]; simpa using k1
      · rw [Nat.add_sub_cancel_left]; simpa using k2
    · rw [List.getElem?_eq_none (by rw [List.length_take]; omega), List.getElem?_eq_none (by simp only [List.length_cons, List.length_nil]; omega)]

theorem orow_pop {w : World} {B g cap : Nat} {cur : Array Value} {f : Ofm} {fs : List Ofm} (hB : B ≤ g) (h1 : w.heap[g]? = some (.cells cur 74 (0, 0))) (h2 : fs.length + 1 ≤ cap) (h3 : cap ≤ maxLen) (h4 : cur.size = cap * 3) (h5 : cur.toList.take ((fs.length + 1) * 3) = ocells (f :: fs)) :
    w.ownsRow B 74 3 (.slice (some ⟨g, 0, none⟩) fs.length cap) fs.length (ocells fs) := by
  refine ⟨ocells_len fs, .inr ⟨g, cap, cur, rfl, hB, h1, by omega, h3, h4, ?_⟩⟩
  have := congrArg (List.take (fs.length * 3)) h5
  rw [List.take_take, Nat.min_eq_left (by omega), ocells_cons, List.take_append_of_le_length (by rw [ocells_len]; exact Nat.le_refl _)] at this
  rw [this, List.take_of_length_le (by rw [ocells_len]; exact Nat.le_refl _)]

/-- Two lists of the same terms, all right, of which some are left. -/
def OFr (w : World) (va vb : Value) (nx rc : Nat) : Prop := ∃ (d : Nat) (ts : List (Tm d)), RdL d w va ts ∧ RdL d w vb ts ∧ OkL d ts ∧ nx ≤ ts.length ∧ cntL d (ts.drop nx) = rc ∧ ts.length ≤ 60

/-- The root: two lists of one, whose term is the same. -/
structure Root (w wr : World) (A B : Nat) (k n : Int) (s : ByteArray) (la lb : Value) : Prop where
  ra : wr.heap[A]? = some (.cells #[.int .i64 k, .int .i64 n, .string s, la] 26 (0, 0))
  rb : wr.heap[B]? = some (.cells #[.int .i64 k, .int .i64 n, .string s, lb] 26 (0, 0))

/-- What stands below: the lists under way and how much is left of them. -/
def OStk (w : World) (A B C : Nat) : List Ofm → Nat → Prop
  | [], W => W = 0
  | (va, vb, nx) :: rest, W => ∃ rc W', (OFr w va vb nx rc ∨ (va = .slice (some ⟨A, 0, none⟩) 1 1 ∧ vb = .slice (some ⟨B, 0, none⟩) 1 1 ∧ ((nx = 0 ∧ rc = C) ∨ (nx = 1 ∧ rc = 0)))) ∧ OStk w A B C rest W' ∧ W = rc + W'

/-- A term that is right, or one of no kind that has no parts. -/
def SZ (k n : Int) (s : ByteArray) (len : Nat) : Prop := Shape k n s len ∨ (k = 0 ∧ len = 0)
/-- What the root is. -/
def RootOk (w : World) (k n : Int) (s : ByteArray) (la lb : Value) (C : Nat) : Prop := ∃ (d : Nat) (ts : List (Tm d)), RdL d w la ts ∧ RdL d w lb ts ∧ SZ k n s ts.length ∧ OkL d ts ∧ C = 1 + cntL d ts

theorem shape_kind2 {k n : Int} {s : ByteArray} {len : Nat} (h : Shape k n s len) : (k = 1 ∨ k = 2 ∨ k = 3 ∨ k = 4 ∨ k = 5) ∧ (¬ (k = 4 ∨ k = 5) → len = 0) := by
  rcases h with ⟨rfl, h⟩ | ⟨rfl, h⟩ | ⟨rfl, h⟩ | ⟨rfl, h⟩ | ⟨rfl, h⟩
  · exact ⟨.inl rfl, fun _ => h.2.2⟩
  · exact ⟨.inr (.inl rfl), fun _ => h.2.2⟩
  · exact ⟨.inr (.inr (.inl rfl)), fun _ => h.2.2⟩
  · exact ⟨.inr (.inr (.inr (.inl rfl))), fun hn => absurd (.inl rfl) hn⟩
  · exact ⟨.inr (.inr (.inr (.inr rfl))), fun hn => absurd (.inr rfl) hn⟩

theorem shape_len60 {k n : Int} {s : ByteArray} {len : Nat} (h : Shape k n s len) : len ≤ 60 := by
  rcases h with ⟨_, h⟩ | ⟨_, h⟩ | ⟨_, h⟩ | ⟨_, h⟩ | ⟨_, h⟩ <;> omega

theorem sz_kind {k n : Int} {s : ByteArray} {len : Nat} (h : SZ k n s len) : (k = 0 ∨ k = 1 ∨ k = 2 ∨ k = 3 ∨ k = 4 ∨ k = 5) ∧ (¬ (k = 4 ∨ k = 5) → len = 0) := by
  rcases h with h | h
  · exact ⟨.inr (shape_kind2 h).1, (shape_kind2 h).2⟩
  · exact ⟨.inl h.1, fun _ => h.2⟩
theorem sz_len60 {k n : Int} {s : ByteArray} {len : Nat} (h : SZ k n s len) : len ≤ 60 := by
  rcases h with h | h
  · exact shape_len60 h
  · omega

/-- A list that has some stands somewhere. -/
theorem rdl_some {d : Nat} {w : World} {a : Option Addr} {l c : Nat} {ts : List (Tm d)} (h : RdL d w (.slice a l c) ts) (hl : 0 < l) : ∃ b o, a = some ⟨b, o, none⟩ := by
  cases d with
  | zero =>
    obtain ⟨_, _, e⟩ := h
    simp only [Value.slice.injEq] at e
    omega
  | succ d =>
    obtain ⟨a', c', e, hel⟩ := h
    simp only [Value.slice.injEq] at e
    obtain ⟨b, o, _, g, _⟩ := hel 0 ts[0] (List.getElem?_eq_getElem (by omega))
    exact ⟨b, o, e.1.trans g⟩

theorem OFr.len {w : World} {va vb : Value} {nx rc : Nat} (h : OFr w va vb nx rc) : ∃ a1 a2 l c1 c2, va = .slice a1 l c1 ∧ vb = .slice a2 l c2 ∧ nx ≤ l ∧ (nx = l → rc = 0) ∧ l ≤ nx + rc ∧ l ≤ 60 := by
  obtain ⟨d, ts, h1, h2, h3, h4, h5, h6⟩ := h
  obtain ⟨a1, c1, e1⟩ := h1.len
  obtain ⟨a2, c2, e2⟩ := h2.len
  have hl := len_cnt (ts.drop nx)
  rw [List.length_drop] at hl
  refine ⟨a1, a2, ts.length, c1, c2, e1, e2, h4, fun e => ?_, by omega, h6⟩
  rw [← h5, List.drop_of_length_le (by omega), cntL_nil]

/-- What is next of two terms' lists, in the world as it stands. -/
def ONx (w wr : World) (a1 a2 : Option Addr) (nx T : Nat) : Prop :=
  ∃ b1 o1 b2 o2 k n s xa xl xc ya yc, a1 = some ⟨b1, o1, none⟩ ∧ a2 = some ⟨b2, o2, none⟩ ∧ Four wr b1 (o1 + nx * 4) k n s (.slice xa xl xc) ∧ Four wr b2 (o2 + nx * 4) k n s (.slice ya xl yc) ∧ (k = 0 ∨ k = 1 ∨ k = 2 ∨ k = 3 ∨ k = 4 ∨ k = 5) ∧ (¬ (k = 4 ∨ k = 5) → xl = 0) ∧ OFr w (.slice xa xl xc) (.slice ya xl yc) 0 T

theorem OFr.next {w wr : World} {a1 a2 : Option Addr} {l c1 c2 nx rc : Nat} (h : OFr w (.slice a1 l c1) (.slice a2 l c2) nx rc) (hb : Below w.heap.size w wr) (hlt : nx < l) : ∃ T rc', ONx w wr a1 a2 nx T ∧ rc = 1 + T + rc' ∧ OFr w (.slice a1 l c1) (.slice a2 l c2) (nx + 1) rc' := by
  obtain ⟨d, ts, h1, h2, h3, h4, h5, h6⟩ := h
  have r1 := h1
  have r2 := h2
  cases d with
  | zero =>
    obtain ⟨_, _, e⟩ := h1
    simp only [Value.slice.injEq] at e
    omega
  | succ d =>
    obtain ⟨a1', c1', e1, g1⟩ := h1
    obtain ⟨a2', c2', e2, g2⟩ := h2
    simp only [Value.slice.injEq] at e1 e2
    have hlt2 : nx < ts.length := by omega
    have ht : ts[nx]? = some ts[nx] := List.getElem?_eq_getElem hlt2
    obtain ⟨b1, o1, lv1, i1, i2, i3⟩ := g1 nx ts[nx] ht
    obtain ⟨b2, o2, lv2, j1, j2, j3⟩ := g2 nx ts[nx] ht
    obtain ⟨xa, xc, ex⟩ := i3.len
    obtain ⟨ya, yc, ey⟩ := j3.len
    have hok := h3 ts[nx] (List.getElem_mem hlt2)
    have hk := shape_kind2 hok.1
    have hd : ts.drop nx = ts[nx] :: ts.drop (nx + 1) := List.drop_eq_getElem_cons hlt2
    rw [hd, cntL_cons] at h5
    subst ex ey
    exact ⟨cntL d ts[nx].L, cntL (d + 1) (ts.drop (nx + 1)), ⟨b1, o1, b2, o2, _, _, _, xa, _, xc, ya, yc, e1.1.trans i1, e2.1.trans j1, i2.later hb, j2.later hb, .inr hk.1, hk.2, d, ts[nx].L, i3, j3, hok.2, Nat.zero_le _, by rw [List.drop_zero], shape_len60 hok.1⟩, by omega, d + 1, ts, r1, r2, h3, hlt2, rfl, h6⟩

theorem OStk.le {w : World} {A B C : Nat} : ∀ {fs : List Ofm} {W : Nat}, OStk w A B C fs W → True := fun _ => trivial

/-- How the comparison stands. -/
structure OInv (w wr : World) (k n : Int) (s : ByteArray) (la lb : Value) (C met W : Nat) (under : Value) (fs : List Ofm) : Prop where
  bel : Below w.heap.size w wr
  lik : wr.heap[w.heap.size + 1 + 1]? = some (.cells #[.int .i64 (met : Nat), .map none, .slice none 0 0] 72 (0, 0))
  rt : Root w wr (w.heap.size + 1 + 1 + 1) (w.heap.size + 1 + 1 + 1 + 1) k n s la lb
  ok : RootOk w k n s la lb C
  stk : OStk w (w.heap.size + 1 + 1 + 1) (w.heap.size + 1 + 1 + 1 + 1) C fs W
  row : wr.ownsRow (w.heap.size + 1 + 1 + 1 + 1 + 1) 74 3 under fs.length (ocells fs)
  work : met + W ≤ C
  few : fs.length ≤ met + 1

/-- The top of what is under way. -/
theorem OInv.top {w wr : World} {k n : Int} {s : ByteArray} {la lb : Value} {C met W : Nat} {under : Value} {va vb : Value} {nx : Nat} {rest : List Ofm} (h : OInv w wr k n s la lb C met W under ((va, vb, nx) :: rest)) :
    ∃ a1 a2 l c1 c2, va = .slice a1 l c1 ∧ vb = .slice a2 l c2 ∧ nx ≤ l ∧ l ≤ 60 ∧ (nx = l → ∃ W', OStk w (w.heap.size + 1 + 1 + 1) (w.heap.size + 1 + 1 + 1 + 1) C rest W' ∧ W' = W) ∧
      (nx < l → ∃ T, ONx w wr a1 a2 nx T ∧ T + 1 ≤ W ∧ OStk w (w.heap.size + 1 + 1 + 1) (w.heap.size + 1 + 1 + 1 + 1) C ((va, vb, nx + 1) :: rest) (W - (T + 1))) := by
  obtain ⟨rc, W', h1, h2, h3⟩ := h.stk
  have hwk := h.work
  have hC1 : 1 ≤ C := by obtain ⟨_, _, _, _, _, _, e⟩ := h.ok; omega
  rcases h1 with h1 | ⟨rfl, rfl, h1⟩
  · obtain ⟨a1, a2, l, c1, c2, rfl, rfl, q1, q2, q3, q4⟩ := h1.len
    refine ⟨a1, a2, l, c1, c2, rfl, rfl, q1, q4, fun e => ⟨W', h2, by have := q2 e; omega⟩, fun hlt => ?_⟩
    obtain ⟨T, rc', g1, g2, g3⟩ := h1.next h.bel hlt
    exact ⟨T, g1, by omega, rc', W', .inl g3, h2, by omega⟩
  · refine ⟨_, _, 1, 1, 1, rfl, rfl, by omega, by omega, fun e => ⟨W', h2, by omega⟩, fun hlt => ?_⟩
    obtain rfl : nx = 0 := by omega
    have hrc : rc = C := by omega
    obtain ⟨d, ts, o1, o2, o3, o4, o5⟩ := h.ok
    obtain ⟨xa, xc, ex⟩ := o1.len
    obtain ⟨ya, yc, ey⟩ := o2.len
    have hk := sz_kind o3
    have hra := h.rt.ra
    have hrb := h.rt.rb
    subst ex ey
    refine ⟨cntL d ts, ⟨_, 0, _, 0, k, n, s, xa, ts.length, xc, ya, yc, rfl, rfl, ?_, ?_, hk.1, hk.2, d, ts, o1, o2, o4, Nat.zero_le _, by rw [List.drop_zero], sz_len60 o3⟩, by omega, 0, W', .inr ⟨rfl, rfl, .inr ⟨rfl, rfl⟩⟩, h2, by omega⟩
    · have hc := fun j => cell_of_row wr (w.heap.size + 1 + 1 + 1) j _ 26 (0, 0) hra
      exact ⟨by rw [hc]; rfl, by rw [hc]; rfl, by rw [hc]; rfl, by rw [hc]; rfl⟩
    · have hc := fun j => cell_of_row wr (w.heap.size + 1 + 1 + 1 + 1) j _ 26 (0, 0) hrb
      exact ⟨by rw [hc]; rfl, by rw [hc]; rfl, by rw [hc]; rfl, by rw [hc]; rfl⟩

theorem Try.infoOrdering : (Try.prog.info? 74).map (fun i => (i.zero, i.size, i.bytes)) = some (some (.agg #[.slice none 0 0, .slice none 0 0, .int .i64 0]), 3, 56) := by kernel_rfl

theorem three_new (w : World) (a b c : Value) (t : TypeId) : ∀ j u, [a, b, c][j]? = some u → (w.alloc (.cells #[a, b, c] t)).cell? ((⟨w.heap.size, 0, none⟩ : Addr).add j) = some u := by
  intro j u hj
  match j, hj with
  | 0, hj => simp at hj; subst hj; simp [Addr.add]
  | 1, hj => simp at hj; subst hj; simp [Addr.add]
  | 2, hj => simp at hj; subst hj; simp [Addr.add]

/-- The top goes on by one. -/
theorem OInv.turn {w wr V : World} {k n : Int} {s : ByteArray} {la lb : Value} {C met R R' : Nat} {va vb : Value} {nx g cap : Nat} {rest : List Ofm} {cur : Array Value} (h : OInv w wr k n s la lb C met R (.slice (some ⟨g, 0, none⟩) (rest.length + 1) cap) ((va, vb, nx) :: rest))
    (HG : w.heap.size + 1 + 1 + 1 + 1 + 1 ≤ g ∧ wr.heap[g]? = some (.cells cur 74 (0, 0)) ∧ rest.length + 1 ≤ cap ∧ cap ≤ maxLen ∧ cur.size = cap * 3 ∧ cur.toList.take ((rest.length + 1) * 3) = ocells ((va, vb, nx) :: rest)) (hT : Turned g wr V)
    (k0 : cur[rest.length * 3]? = some va) (k1 : cur[rest.length * 3 + 1]? = some vb) (h6 : V.heap[g]? = some (.cells (cur.setIfInBounds (rest.length * 3 + 2) (.int .i64 (nx + 1 : Nat))) 74 (0, 0)))
    (hst : OStk w (w.heap.size + 1 + 1 + 1) (w.heap.size + 1 + 1 + 1 + 1) C ((va, vb, nx + 1) :: rest) R') (hR : R' ≤ R) : OInv w V k n s la lb C met R' (.slice (some ⟨g, 0, none⟩) (rest.length + 1) cap) ((va, vb, nx + 1) :: rest) := by
  obtain ⟨g0, g1, g2, g3, g4, g5⟩ := HG
  have hgz := lt_of_row' g1
  have hV : ∀ j, j < w.heap.size + 1 + 1 + 1 + 1 + 1 → V.heap[j]? = wr.heap[j]? := fun j hj => hT.block j (by omega) (by omega)
  have hwk := h.work
  refine ⟨h.bel.trans (hT.below (by omega) h.bel.size), (hV _ (by omega)).trans h.lik, ⟨(hV _ (by omega)).trans h.rt.ra, (hV _ (by omega)).trans h.rt.rb⟩, h.ok, hst, ?_, by omega, h.few⟩
  refine orow_turn (f' := (va, vb, nx + 1)) g0 g2 g3 g4 g5 h6 (by simp) (fun j hj => by rw [Array.getElem?_setIfInBounds_ne (by omega)]) ?_ ?_ ?_
  · rw [Array.getElem?_setIfInBounds_ne (by omega)]; exact k0
  · rw [Array.getElem?_setIfInBounds_ne (by omega)]; exact k1
  · rw [Array.getElem?_setIfInBounds_self_of_lt (by omega)]

/-- Nothing but what is new has come. -/
theorem OInv.later {w wr V : World} {k n : Int} {s : ByteArray} {la lb : Value} {C met R : Nat} {under : Value} {fs : List Ofm} (h : OInv w wr k n s la lb C met R under fs) (hb : Below wr.heap.size wr V) : OInv w V k n s la lb C met R under fs := by
  have hz := lt_of_row' h.rt.rb
  refine ⟨h.bel.trans (hb.mono h.bel.size), (hb.block _ (by omega)).trans h.lik, ⟨(hb.block _ (by omega)).trans h.rt.ra, (hb.block _ (by omega)).trans h.rt.rb⟩, h.ok, h.stk, rowKept h.row fun j hj => hb.block j ?_, h.work, h.few⟩
  rcases h.row.2 with ⟨e, _⟩ | ⟨g, c, cur, e, _, hg, _⟩
  · rw [e] at hj; cases hj
  · rw [e] at hj
    obtain rfl : g = j := by simpa [Value.ownBlock] using hj
    exact lt_of_row' hg

/-- One more has been met. -/
theorem OInv.meet {w wr V : World} {k n : Int} {s : ByteArray} {la lb : Value} {C met R : Nat} {under : Value} {fs : List Ofm} (h : OInv w wr k n s la lb C met R under fs) (hT : Turned (w.heap.size + 1 + 1) wr V) (hl : V.heap[w.heap.size + 1 + 1]? = some (.cells #[.int .i64 (met + 1 : Nat), .map none, .slice none 0 0] 72 (0, 0))) (hR : met + 1 + R ≤ C) : OInv w V k n s la lb C (met + 1) R under fs := by
  have hz := lt_of_row' h.rt.rb
  refine ⟨h.bel.trans (hT.below (by omega) h.bel.size), hl, ⟨(hT.block _ (by omega) (by omega)).trans h.rt.ra, (hT.block _ (by omega) (by omega)).trans h.rt.rb⟩, h.ok, h.stk, rowKept h.row fun j hj => ?_, hR, by have := h.few; omega⟩
  rcases h.row.2 with ⟨e, _⟩ | ⟨g, c, cur, e, hg0, hg, _⟩
  · rw [e] at hj; cases hj
  · rw [e] at hj
    obtain rfl : g = j := by simpa [Value.ownBlock] using hj
    exact hT.block _ (lt_of_row' hg) (by omega)

/-- Two lists come on top. -/
theorem OInv.push {w Z w4 : World} {k n : Int} {s : ByteArray} {la lb : Value} {C met R T g : Nat} {under va vb v' : Value} {fs : List Ofm} {ob : Obj} (h : OInv w Z k n s la lb C met R under fs) (hg : w.heap.size + 1 + 1 + 1 + 1 + 1 ≤ g) (hf : OFr w va vb 0 T)
    (hgr : (Z.alloc ob).grownBy w4 (some g)) (hown : w4.ownsRow (w.heap.size + 1 + 1 + 1 + 1 + 1) 74 3 v' (fs.length + 1) (ocells fs ++ [va, vb, .int .i64 0])) (hwk : met + (R + T) ≤ C) (hfew : fs.length ≤ met) :
    OInv w w4 k n s la lb C met (R + T) v' ((va, vb, 0) :: fs) := by
  have hz := lt_of_row' h.rt.rb
  have hV : ∀ j, j < w.heap.size + 1 + 1 + 1 + 1 + 1 → w4.heap[j]? = Z.heap[j]? := fun j hj => (hgr.block j (by simp; omega) (by simp; omega)).trans (Below.heap_alloc Z _ j (by omega))
  refine ⟨h.bel.trans (((Below.refl w.heap.size Z).alloc h.bel.size _).grown hgr (by simp; have := h.bel.size; omega) (fun k hk => by cases hk; omega)), (hV _ (by omega)).trans h.lik, ⟨(hV _ (by omega)).trans h.rt.ra, (hV _ (by omega)).trans h.rt.rb⟩, h.ok, ⟨T, R, .inl hf, h.stk, by omega⟩, ?_, hwk, by simp only [List.length_cons]; omega⟩
  rw [ocells_cons]
  exact hown

/-- The top has come to its end. -/
theorem OInv.pop {w wr : World} {k n : Int} {s : ByteArray} {la lb : Value} {C met R : Nat} {va vb : Value} {nx g cap : Nat} {rest : List Ofm} {cur : Array Value} (h : OInv w wr k n s la lb C met R (.slice (some ⟨g, 0, none⟩) (rest.length + 1) cap) ((va, vb, nx) :: rest))
    (HG : w.heap.size + 1 + 1 + 1 + 1 + 1 ≤ g ∧ wr.heap[g]? = some (.cells cur 74 (0, 0)) ∧ rest.length + 1 ≤ cap ∧ cap ≤ maxLen ∧ cur.size = cap * 3 ∧ cur.toList.take ((rest.length + 1) * 3) = ocells ((va, vb, nx) :: rest))
    (hst : OStk w (w.heap.size + 1 + 1 + 1) (w.heap.size + 1 + 1 + 1 + 1) C rest R) : OInv w wr k n s la lb C met R (.slice (some ⟨g, 0, none⟩) rest.length cap) rest := by
  obtain ⟨g0, g1, g2, g3, g4, g5⟩ := HG
  exact ⟨h.bel, h.lik, h.rt, h.ok, hst, orow_pop g0 g1 g2 g3 g4 g5, h.work, by have := h.few; simp only [List.length_cons] at this; omega⟩

/-- What counts of the parts. -/
theorem parts_of {w : World} {k : Int} {xa ya : Option Addr} {xl xc yc T : Nat} (hz : ¬ (k = 4 ∨ k = 5) → xl = 0) (hf : OFr w (.slice xa xl xc) (.slice ya xl yc) 0 T) : ∃ pa qa pc qc, partsV k (.slice xa xl xc) = .slice pa xl pc ∧ partsV k (.slice ya xl yc) = .slice qa xl qc ∧ (0 < xl → OFr w (.slice pa xl pc) (.slice qa xl qc) 0 T ∧ ∃ b1 o1 b2 o2, pa = some ⟨b1, o1, none⟩ ∧ qa = some ⟨b2, o2, none⟩) := by
  by_cases hk : k = 4 ∨ k = 5
  · refine ⟨xa, ya, xc, yc, by simp [partsV, hk], by simp [partsV, hk], fun hl => ⟨hf, ?_⟩⟩
    obtain ⟨d, ts, h1, h2, _⟩ := hf
    obtain ⟨b1, o1, e1⟩ := rdl_some h1 hl
    obtain ⟨b2, o2, e2⟩ := rdl_some h2 hl
    exact ⟨b1, o1, b2, o2, e1, e2⟩
  · obtain rfl := hz hk
    exact ⟨none, none, 0, 0, by simp [partsV, hk], by simp [partsV, hk], fun hl => absurd hl (by omega)⟩

end Go.Proofs.Ytbllnmafilabpaa

/- The program's comparison of two terms of the same fields: the walk. -/
namespace Go.Proofs.Ytbllnmafilabpaa
open Go.RowKit
set_option linter.unusedVariables false

/-- What stands at the slot. -/
def OAt (w : World) (k n : Int) (s : ByteArray) (la lb : Value) (C : Nat) (under : Value) (wr : World) (W : Nat) : Prop := ∃ (met R : Nat) (fs : List Ofm), OInv w wr k n s la lb C met R under fs ∧ W = 2 * R + fs.length

theorem ostart (k n : Int) (s : ByteArray) (la lb : Value) (C : Nat) (w : World) (hok : RootOk w k n s la lb C) : OInv w ((((((w.alloc (.cells #[.int .i64 k, .int .i64 n, .string s, la] 26)).alloc (.cells #[.int .i64 k, .int .i64 n, .string s, lb] 26)).alloc (.cells #[.int .i64 0, .map none, .slice none 0 0] 72)).alloc (.cells #[.int .i64 k, .int .i64 n, .string s, la] 26)).alloc (.cells #[.int .i64 k, .int .i64 n, .string s, lb] 26)).alloc (.cells #[.slice (some ⟨w.heap.size + 1 + 1 + 1, 0, none⟩) 1 1, .slice (some ⟨w.heap.size + 1 + 1 + 1 + 1, 0, none⟩) 1 1, .int .i64 0] 74))
    k n s la lb C 0 C (.slice (some ⟨w.heap.size + 1 + 1 + 1 + 1 + 1, 0, none⟩) 1 1) [(.slice (some ⟨w.heap.size + 1 + 1 + 1, 0, none⟩) 1 1, .slice (some ⟨w.heap.size + 1 + 1 + 1 + 1, 0, none⟩) 1 1, 0)] := by
  obtain ⟨w1, h1⟩ : ∃ w1, w1 = w.alloc (.cells #[.int .i64 k, .int .i64 n, .string s, la] 26) := ⟨_, rfl⟩
  obtain ⟨w2, h2⟩ : ∃ w2, w2 = w1.alloc (.cells #[.int .i64 k, .int .i64 n, .string s, lb] 26) := ⟨_, rfl⟩
  obtain ⟨w3, h3⟩ : ∃ w3, w3 = w2.alloc (.cells #[.int .i64 0, .map none, .slice none 0 0] 72) := ⟨_, rfl⟩
  obtain ⟨w4, h4⟩ : ∃ w4, w4 = w3.alloc (.cells #[.int .i64 k, .int .i64 n, .string s, la] 26) := ⟨_, rfl⟩
  obtain ⟨w5, h5⟩ : ∃ w5, w5 = w4.alloc (.cells #[.int .i64 k, .int .i64 n, .string s, lb] 26) := ⟨_, rfl⟩
  obtain ⟨w6, h6⟩ : ∃ w6, w6 = w5.alloc (.cells #[.slice (some ⟨w.heap.size + 1 + 1 + 1, 0, none⟩) 1 1, .slice (some ⟨w.heap.size + 1 + 1 + 1 + 1, 0, none⟩) 1 1, .int .i64 0] 74) := ⟨_, rfl⟩
  have z1 : w1.heap.size = w.heap.size + 1 := by rw [h1]; simp
  have z2 : w2.heap.size = w.heap.size + 1 + 1 := by rw [h2]; simp [z1]
  have z3 : w3.heap.size = w.heap.size + 1 + 1 + 1 := by rw [h3]; simp [z2]
  have z4 : w4.heap.size = w.heap.size + 1 + 1 + 1 + 1 := by rw [h4]; simp [z3]
  have z5 : w5.heap.size = w.heap.size + 1 + 1 + 1 + 1 + 1 := by rw [h5]; simp [z4]
  have b1 : Below w.heap.size w w1 := by rw [h1]; exact (Below.refl _ _).alloc (Nat.le_refl _) _
  have b2 : Below w1.heap.size w1 w2 := by rw [h2]; exact (Below.refl _ _).alloc (Nat.le_refl _) _
  have b3 : Below w2.heap.size w2 w3 := by rw [h3]; exact (Below.refl _ _).alloc (Nat.le_refl _) _
  have b4 : Below w3.heap.size w3 w4 := by rw [h4]; exact (Below.refl _ _).alloc (Nat.le_refl _) _
  have b5 : Below w4.heap.size w4 w5 := by rw [h5]; exact (Below.refl _ _).alloc (Nat.le_refl _) _
  have b6 : Below w5.heap.size w5 w6 := by rw [h6]; exact (Below.refl _ _).alloc (Nat.le_refl _) _
  have n3 : w3.heap[w2.heap.size]? = some (.cells #[.int .i64 0, .map none, .slice none 0 0] 72 (0, 0)) := by rw [h3]; exact heap_alloc_new w2 _
  have n4 : w4.heap[w3.heap.size]? = some (.cells #[.int .i64 k, .int .i64 n, .string s, la] 26 (0, 0)) := by rw [h4]; exact heap_alloc_new w3 _
  have n5 : w5.heap[w4.heap.size]? = some (.cells #[.int .i64 k, .int .i64 n, .string s, lb] 26 (0, 0)) := by rw [h5]; exact heap_alloc_new w4 _
  have n6 : w6.heap[w5.heap.size]? = some (.cells #[.slice (some ⟨w.heap.size + 1 + 1 + 1, 0, none⟩) 1 1, .slice (some ⟨w.heap.size + 1 + 1 + 1 + 1, 0, none⟩) 1 1, .int .i64 0] 74 (0, 0)) := by rw [h6]; exact heap_alloc_new w5 _
  rw [← h1, ← h2, ← h3, ← h4, ← h5, ← h6]
  rw [z2] at n3
  rw [z3] at n4
  rw [z4] at n5
  rw [z5] at n6
  have b35 : Below w3.heap.size w3 w6 := b4.trans ((b5.trans (b6.mono b5.size)).mono b4.size)
  have b45 : Below w4.heap.size w4 w6 := b5.trans (b6.mono b5.size)
  exact ⟨b1.trans ((b2.trans ((b3.trans (b35.mono b3.size)).mono b2.size)).mono b1.size), (b35.block _ (by omega)).trans n3, ⟨(b45.block _ (by omega)).trans n4, (b6.block _ (by omega)).trans n5⟩, hok, ⟨C, 0, .inr ⟨rfl, rfl, .inl ⟨rfl, rfl⟩⟩, rfl, rfl⟩, ⟨rfl, .inr ⟨_, 1, _, rfl, Nat.le_refl _, n6, Nat.le_refl _, by unfold maxLen; omega, rfl, rfl⟩⟩, by omega, Nat.le_refl _⟩

set_option maxRecDepth 100000 in
set_option maxHeartbeats 4000000 in
theorem orderOf_same (k n : Int) (s : ByteArray) (a1 a2 : Option Addr) (len c1 c2 C : Nat) (w : World) (hok : RootOk w k n s (.slice a1 len c1) (.slice a2 len c2) C) (hC : C ≤ 300) :
    Calls Try.prog 22 #[.agg #[.int .i64 k, .int .i64 n, .string s, .slice a1 len c1], .agg #[.int .i64 k, .int .i64 n, .string s, .slice a2 len c2]] w fun e w' => e = .returned (.int .i64 0) ∧ Below w.heap.size w w' := by
  have H0 : Hid (OInv w _ k n s (.slice a1 len c1) (.slice a2 len c2) C 0 C _ _) := ostart k n s (.slice a1 len c1) (.slice a2 len c2) C w hok
  obtain ⟨μ', hμ'⟩ := least_work (fun _ b c m => OAt w k n s (.slice a1 len c1) (.slice a2 len c2) C b c m)
  obtain ⟨μ, hμe⟩ : ∃ μ : Value → World → Nat, μ = fun b c => μ' undef b c := ⟨_, rfl⟩
  have HMU : Hid (∀ b c m, OAt w k n s (.slice a1 len c1) (.slice a2 len c2) C b c m → OAt w k n s (.slice a1 len c1) (.slice a2 len c2) C b c (μ b c) ∧ μ b c ≤ m) := fun b c m h => by rw [hμe]; exact hμ' undef b c m h
  clear hμ' hμe hok
  go_enter Try.func22, Try.ntmps22
  go_wp2_with fail
  go_loopw [6] (fun under wr => Hid (∃ W, OAt w k n s (.slice a1 len c1) (.slice a2 len c2) C under wr W)) (fun under wr => μ under wr)
  case atStart => exact ⟨_, 0, _, _, H0.out, rfl⟩
  case round =>
    obtain ⟨W0, hW0⟩ := hrel.out
    have hM := (HMU.out _ _ _ hW0).1
    obtain ⟨W, hWe⟩ : ∃ W, μ u6 wr = W := ⟨_, rfl⟩
    rw [hWe] at hM
    have HWE : Hid (μ u6 wr = W) := hWe
    clear H0 hrel hW0 hWe
    obtain ⟨met, R, fs, hI, hWR⟩ := hM
    cases fs with
    | nil =>
      have hbel := hI.bel
      obtain ⟨ua, uc, rfl⟩ : ∃ ua uc, u6 = .slice ua 0 uc := by
        rcases hI.row.2 with ⟨e, _⟩ | ⟨g, c, cur, e1, _⟩
        · exact ⟨_, _, e⟩
        · exact ⟨_, _, e1⟩
      clear hI
      go_wp2_with fail
      go_ret
      exact ⟨rfl, hbel⟩
    | cons top rest =>
      obtain ⟨va, vb, nx⟩ := top
      obtain ⟨b1, b2, l, e1, e2, rfl, rfl, hnx, hl60, hdone, hnext⟩ := hI.top
      obtain ⟨g, cap, cur, rfl, hg0, hg, hg1, hg2, hg3, hg4, k0, k1, k2⟩ := orow_top hI.row
      have hfew := hI.few
      have hwk := hI.work
      have t0 : wr.cell? ⟨g, rest.length * 3, none⟩ = some (.slice b1 l e1) := by rw [cell_of_row wr _ _ _ _ _ hg]; exact k0
      have t1 : wr.cell? ⟨g, rest.length * 3 + 1, none⟩ = some (.slice b2 l e2) := by rw [cell_of_row wr _ _ _ _ _ hg]; exact k1
      have t2 : wr.cell? ⟨g, rest.length * 3 + 2, none⟩ = some (.int .i64 nx) := by rw [cell_of_row wr _ _ _ _ _ hg]; exact k2
      obtain ⟨m, hm⟩ : ∃ m, rest.length = m := ⟨_, rfl⟩
      have HL : Hid (rest.length = m) := hm
      have HI : Hid (OInv w wr k n s (.slice a1 len c1) (.slice a2 len c2) C met R (.slice (some ⟨g, 0, none⟩) (rest.length + 1) cap) ((.slice b1 l e1, .slice b2 l e2, nx) :: rest)) := hI
      have HK : Hid (cur[rest.length * 3]? = some (.slice b1 l e1) ∧ cur[rest.length * 3 + 1]? = some (.slice b2 l e2) ∧ cur[rest.length * 3 + 2]? = some (.int .i64 nx)) := ⟨k0, k1, k2⟩
      have HG : Hid (w.heap.size + 1 + 1 + 1 + 1 + 1 ≤ g ∧ wr.heap[g]? = some (.cells cur 74 (0, 0)) ∧ rest.length + 1 ≤ cap ∧ cap ≤ maxLen ∧ cur.size = cap * 3 ∧ cur.toList.take ((rest.length + 1) * 3) = ocells ((.slice b1 l e1, .slice b2 l e2, nx) :: rest)) := ⟨hg0, hg, hg1, hg2, hg3, hg4⟩
      have HDN : Hid (nx = l → ∃ W', OStk w (w.heap.size + 1 + 1 + 1) (w.heap.size + 1 + 1 + 1 + 1) C rest W' ∧ W' = R) := hdone
      have HNX : Hid (nx < l → ∃ T, ONx w wr b1 b2 nx T ∧ T + 1 ≤ R ∧ OStk w (w.heap.size + 1 + 1 + 1) (w.heap.size + 1 + 1 + 1 + 1) C ((.slice b1 l e1, .slice b2 l e2, nx + 1) :: rest) (R - (T + 1))) := hnext
      have HWR : Hid (W = 2 * R + (rest.length + 1)) := hWR
      rw [hm] at t0 t1 t2 ⊢
      have hm1 : m ≤ 300 := by simp only [List.length_cons] at hfew; omega
      have hgz := lt_of_row' hg
      have hl1 : l ≤ 100000 := by omega
      have hnx1 : nx ≤ 100000 := by omega
      clear hm hI hg hg1 hg2 hg3 hg4 k0 k1 k2 hdone hnext hWR hfew hl60
      by_cases hlt : nx < l
      · have hne : ((nx : Int) == (l : Int)) = false := by simp; omega
        go_wp2_with fail
        go_cut [43] (fun v wx => v = .bool false ∧ Below wr.heap.size wr wx)
        case first =>
          go_quiet (fail)
          go_wp2_with fail
          go_meet
          case rel => exact ⟨rfl, below_drewN (Below.refl _ _) _⟩
        case rest =>
          obtain ⟨rfl, hbc⟩ := hcut
          obtain ⟨w1, hw1⟩ : ∃ w1, w1 = wc := ⟨_, rfl⟩
          subst hw1
          obtain ⟨T, ⟨p1, q1, p2, q2, kk, nn, ss, xa, xl, xc, ya, yc, rfl, rfl, F1, F2, hkk, hkz, hfr⟩, hTR, hstk⟩ := HNX.out hlt
          obtain ⟨pa, qa, pc, qc, hP1, hP2, hPF⟩ := parts_of hkz hfr
          have hxl : xl ≤ 60 := by
            obtain ⟨_, _, _, _, _, e, _, _, _, _, hh⟩ := hfr.len
            simp only [Value.slice.injEq] at e
            omega
          obtain ⟨f0, f1, f2, f3⟩ := F1.later hbc
          obtain ⟨x0, x1, x2, x3⟩ := F2.later hbc
          have t0' := cell_later hbc t0
          have t1' := cell_later hbc t1
          have t2' := cell_later hbc t2
          have hi1 : (nx : Int) < (l : Int) := by omega
          have HBC : Hid (Below wr.heap.size wr w1) := hbc
          have HOH : Hid (∀ V : World, Calls Try.prog 36 #[.agg #[.int .i64 kk, .int .i64 nn, .string ss, .slice xa xl xc], .agg #[.int .i64 kk, .int .i64 nn, .string ss, .slice ya xl yc]] V fun e w' => e = .returned (.tuple #[.int .i64 0, .slice pa xl pc, .slice qa xl qc]) ∧ Below V.heap.size V w') := fun V => by
            have h := orderHeads_same kk nn ss xa ya xl xc yc V hkk
            rw [hP1, hP2] at h
            exact h
          have HPF : Hid (0 < xl → OFr w (.slice pa xl pc) (.slice qa xl qc) 0 T ∧ ∃ b1 o1 b2 o2, pa = some ⟨b1, o1, none⟩ ∧ qa = some ⟨b2, o2, none⟩) := hPF
          have HSTK : Hid (T + 1 ≤ R ∧ OStk w (w.heap.size + 1 + 1 + 1) (w.heap.size + 1 + 1 + 1 + 1) C ((.slice (some ⟨p1, q1, none⟩) l e1, .slice (some ⟨p2, q2, none⟩) l e2, nx + 1) :: rest) (R - (T + 1))) := ⟨hTR, hstk⟩
          clear F1 F2 hkk hkz hfr hP1 hP2 hPF hstk t0 t1 hbc HNX HDN
          go_wp2_with fail
          go_cut [9, 10, 11] (fun v9 v10 v11 wx => v9 = .int .i64 0 ∧ v10 = .slice pa xl pc ∧ v11 = .slice qa xl qc ∧ Below w1.heap.size w1 wx)
          case first =>
            have hne := After.some w1
            have a0 := After.cell t0'
            have a1 := After.cell t1'
            have a2 := After.cell t2'
            have g0 := After.cell f0
            have g1 := After.cell f1
            have g2 := After.cell f2
            have g3 := After.cell f3
            have h0 := After.cell x0
            have h1 := After.cell x1
            have h2 := After.cell x2
            have h3 := After.cell x3
            refine wp_region_after (by kernel_rfl) (by kernel_rfl) ?_
            repeat (go_big_quiet_step ((go_at_call 36; exact calls_after (HOH.out _))))
            refine wpQuiet_nil ?_
            rintro _ ⟨nq, rfl⟩
            have hB := nq.bel
            go_wp2_with fail
            go_meet
            case rel => exact ⟨rfl, rfl, rfl, hB⟩
          case rest =>
            obtain ⟨rfl, rfl, rfl, hbd⟩ := hcut
            obtain ⟨w2, hw2⟩ : ∃ w2, w2 = wc := ⟨_, rfl⟩
            subst hw2
            have hbe : Below wr.heap.size wr w2 := HBC.out.trans (hbd.mono HBC.out.size)
            have hg2 : w2.heap[g]? = some (.cells cur 74 (0, 0)) := (hbe.block g hgz).trans HG.out.2.1
            have t2'' := cell_later hbe t2
            have y2'' : w2.frozen? ⟨g, m * 3 + 2, none⟩ = false := frozen_of_row w2 _ _ _ _ hg2
            obtain ⟨X, hX⟩ : ∃ X, X = w2.setCell ⟨g, m * 3 + 2, none⟩ (.int .i64 (↑nx + 1)) := ⟨_, rfl⟩
            have hIX : OInv w X k n s (.slice a1 len c1) (.slice a2 len c2) C met (R - (T + 1)) (.slice (some ⟨g, 0, none⟩) (rest.length + 1) cap) ((.slice (some ⟨p1, q1, none⟩) l e1, .slice (some ⟨p2, q2, none⟩) l e2, nx + 1) :: rest) := by
              refine HI.out.turn HG.out (V := X) ?_ HK.out.1 HK.out.2.1 ?_ HSTK.out.2 (by omega)
              · rw [hX]; exact (Turned.of_below hbe).trans (Turned.of_set w2 g _ _)
              · rw [hX, HL.out]; exact heap_setCell_same w2 g _ _ _ _ hg2
            have HX : Hid (X = w2.setCell ⟨g, m * 3 + 2, none⟩ (.int .i64 (↑nx + 1))) := hX
            have HIX : Hid (OInv w X k n s (.slice a1 len c1) (.slice a2 len c2) C met (R - (T + 1)) (.slice (some ⟨g, 0, none⟩) (rest.length + 1) cap) ((.slice (some ⟨p1, q1, none⟩) l e1, .slice (some ⟨p2, q2, none⟩) l e2, nx + 1) :: rest)) := hIX
            clear f0 f1 f2 f3 x0 x1 x2 x3 t0' t1' t2' t2 hi1 hbe hg2 hbd HOH HI HK HG hne HBC
            by_cases hxz : xl = 0
            · subst hxz
              have hC := taken_none (w.heap.size + 1 + 1) pa qa pc qc X
              clear hIX
              rw [hX] at hC
              clear hX
              go_wp2_with fail
              refine hC.mono ?_
              clear hC
              rintro e w3 ⟨rfl, hw3⟩
              rw [← HX.out] at hw3
              have HI3 : Hid (OInv w w3 k n s (.slice a1 len c1) (.slice a2 len c2) C met (R - (T + 1)) (.slice (some ⟨g, 0, none⟩) (m + 1) cap) ((.slice (some ⟨p1, q1, none⟩) l e1, .slice (some ⟨p2, q2, none⟩) l e2, nx + 1) :: rest)) := by
                rw [← hw3, ← HL.out]; exact HIX.out
              clear hw3 HIX HX t2'' y2''
              go_wp2_with fail
              go_roundw
              case rel => exact ⟨_, _, _, _, HI3.out, rfl⟩
              case measure =>
                have h1 := (HMU.out _ _ _ ⟨_, _, _, HI3.out, rfl⟩).2
                have h2 := HWE.out
                have h3 := HWR.out
                have h4 := HSTK.out.1
                rw [HL.out] at h2 h3
                simp only [List.length_cons, HL.out] at h1
                omega
            · have hxp : 0 < xl := by omega
              obtain ⟨hof, b1, o1, b2, o2, rfl, rfl⟩ := HPF.out hxp
              have hmr : met < 300 := by omega
              have hC := taken_few (w.heap.size + 1 + 1) met _ _ b1 o1 b2 o2 xl pc qc X hIX.lik hmr hxp (by omega)
              have HOF : Hid (OFr w (.slice (some ⟨b1, o1, none⟩) xl pc) (.slice (some ⟨b2, o2, none⟩) xl qc) 0 T) := hof
              clear hIX hof
              rw [hX] at hC
              clear hX
              go_wp2_with fail
              refine hC.mono ?_
              clear hC
              rintro e w3 ⟨rfl, hl3, hT3⟩
              rw [← HX.out] at hT3
              have hI3 : OInv w w3 k n s (.slice a1 len c1) (.slice a2 len c2) C (met + 1) (R - (T + 1)) (.slice (some ⟨g, 0, none⟩) (m + 1) cap) ((.slice (some ⟨p1, q1, none⟩) l e1, .slice (some ⟨p2, q2, none⟩) l e2, nx + 1) :: rest) := by
                rw [← HL.out]; exact HIX.out.meet hT3 hl3 (by omega)
              have HI3 : Hid (OInv w w3 k n s (.slice a1 len c1) (.slice a2 len c2) C (met + 1) (R - (T + 1)) (.slice (some ⟨g, 0, none⟩) (m + 1) cap) ((.slice (some ⟨p1, q1, none⟩) l e1, .slice (some ⟨p2, q2, none⟩) l e2, nx + 1) :: rest)) := hI3
              have hrow := hI3.row
              simp only [List.length_cons, HL.out] at hrow
              have HROW : Hid (w3.ownsRow (w.heap.size + 1 + 1 + 1 + 1 + 1) 74 3 (.slice (some ⟨g, 0, none⟩) (m + 1) cap) (m + 1) (ocells ((.slice (some ⟨p1, q1, none⟩) l e1, .slice (some ⟨p2, q2, none⟩) l e2, nx + 1) :: rest))) := hrow
              have hgz3 : w.heap.size + 1 + 1 + 1 + 1 + 1 ≤ w3.heap.size := lt_of_row' hI3.rt.rb
              have HFEW : Hid (m + 1 ≤ met + 1) := by have := HIX.out.few; simp only [List.length_cons, HL.out] at this; exact this
              obtain ⟨i0, hi, hi0, hi1, hi2⟩ := info_parts Try.infoOrdering
              clear hl3 hT3 HIX HX hI3 hrow t2'' y2''
              go_wp2_with (first | (at_builtin; refine wpList_append_own_at _ rfl _ _ 75 rfl (w.heap.size + 1 + 1 + 1 + 1 + 1) 74 i0 (.agg #[.slice none 0 0, .slice none 0 0, .int .i64 0]) 3 56 Try.underlying75 hi hi0 hi1 hi2 rfl (by decide) _ _ _ rfl (HROW.out.alloc _) ⟨w3.heap.size, 0, none⟩ 1 1 [.slice (some ⟨b1, o1, none⟩) xl pc, .slice (some ⟨b2, o2, none⟩) xl qc, .int .i64 0] rfl rfl (three_new w3 _ _ _ _) (by intro u hu; simp at hu; rcases hu with rfl | rfl | rfl <;> rfl) (by unfold maxLen; omega) (by omega) (by simp; omega) ?_; intro v' w4 hown4 hgrow4 _ hat) | go_in)
              have HM4 : Hid (OInv w w4 k n s (.slice a1 len c1) (.slice a2 len c2) C (met + 1) (R - (T + 1) + T) v' ((.slice (some ⟨b1, o1, none⟩) xl pc, .slice (some ⟨b2, o2, none⟩) xl qc, 0) :: (.slice (some ⟨p1, q1, none⟩) l e1, .slice (some ⟨p2, q2, none⟩) l e2, nx + 1) :: rest)) := HI3.out.push hg0 HOF.out hgrow4 (by simp only [List.length_cons, HL.out]; exact hown4) (by omega) (by simp only [List.length_cons, HL.out]; exact HFEW.out)
              clear hown4 hgrow4 hat
              go_wp2_with fail
              go_roundw
              case rel => exact ⟨_, _, _, _, HM4.out, rfl⟩
              case measure =>
                have h1 := (HMU.out _ _ _ ⟨_, _, _, HM4.out, rfl⟩).2
                have h2 := HWE.out
                have h3 := HWR.out
                have h4 := HSTK.out.1
                rw [HL.out] at h2 h3
                simp only [List.length_cons, HL.out] at h1
                omega
      · obtain rfl : nx = l := by omega
        obtain ⟨R', hst, hR'⟩ := HDN.out rfl
        obtain rfl : R' = R := hR'
        have HST : Hid (OStk w (w.heap.size + 1 + 1 + 1) (w.heap.size + 1 + 1 + 1 + 1) C rest R') := hst
        clear hst HDN HNX
        go_wp2_with fail
        go_cut [43] (fun v wx => v = .bool true ∧ Below wr.heap.size wr wx)
        case first =>
          go_quiet (fail)
          go_wp2_with fail
          go_meet
          case rel => exact ⟨rfl, below_drewN (Below.refl _ _) _⟩
        case rest =>
          obtain ⟨rfl, hbc⟩ := hcut
          obtain ⟨w1, hw1⟩ : ∃ w1, w1 = wc := ⟨_, rfl⟩
          subst hw1
          have t0' := cell_later hbc t0
          have t1' := cell_later hbc t1
          have HBC : Hid (Below wr.heap.size wr w1) := hbc
          have hmc : (m : Int) ≤ (cap : Int) := by have := HG.out.2.2.1; rw [HL.out] at this; omega
          clear t0 t1 t2 hbc
          go_wp2_with fail
          go_cut [8] (fun v wx => v = .int .i64 0 ∧ Below w1.heap.size w1 wx)
          case first =>
            go_quiet (first | (go_at_call 35; refine Calls.quiet_of_same (cmpInt_same' _ _)))
            go_wp2_with fail
            go_meet
            case rel => exact ⟨rfl, below_drewN (Below.refl _ _) _⟩
          case rest =>
            obtain ⟨rfl, hbd⟩ := hcut
            obtain ⟨w2, hw2⟩ : ∃ w2, w2 = wc := ⟨_, rfl⟩
            subst hw2
            have HM4 : Hid (OInv w w2 k n s (.slice a1 len c1) (.slice a2 len c2) C met R' (.slice (some ⟨g, 0, none⟩) m cap) rest) := by
              have h := (HI.out.pop HG.out HST.out).later (HBC.out.trans (hbd.mono HBC.out.size))
              rw [HL.out] at h
              exact h
            clear hbd t0' t1'
            go_wp2_with fail
            go_roundw
            case rel => exact ⟨_, _, _, _, HM4.out, rfl⟩
            case measure =>
              have h1 := (HMU.out _ _ _ ⟨_, _, _, HM4.out, rfl⟩).2
              have h2 := HWE.out
              have h3 := HWR.out
              rw [HL.out] at h1 h2 h3
              omega

end Go.Proofs.Ytbllnmafilabpaa
