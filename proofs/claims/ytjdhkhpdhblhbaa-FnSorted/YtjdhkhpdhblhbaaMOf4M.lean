/- The walk through a term: what it comes to. -/
import Derived.Test.YtjdhkhpdhblhbaaMOf2M
import Derived.Test.YtjdhkhpdhblhbaaIGet2M
import Derived.Deep.RegionWith
import Derived.Deep.DeepCutAuto
import Derived.Deep.CutRange
namespace Go.Proofs.Ytjdhkhpdhblhbaa
open Go.RowKit
set_option linter.unusedVariables false

/-- The cells of what is under way, the outermost first. -/
def fcells (fs : List Frm) : List Value := (fs.reverse.map fun f => [f.1, .int .i64 (f.2.1 : Nat), .int .i64 (f.2.2.1 : Nat), .int .i64 (f.2.2.2 : Nat)]).flatten

theorem fcells_cons (f : Frm) (fs : List Frm) : fcells (f :: fs) = fcells fs ++ [f.1, .int .i64 (f.2.1 : Nat), .int .i64 (f.2.2.1 : Nat), .int .i64 (f.2.2.2 : Nat)] := by
  unfold fcells
  simp

theorem fcells_len (fs : List Frm) : (fcells fs).length = fs.length * 4 := by
  induction fs with
  | nil => rfl
  | cons f fs ih => rw [fcells_cons, List.length_append, ih]; simp only [List.length_cons, List.length_nil]; omega

/-- The row of what is under way: its block, and where the top stands in it. -/
theorem row_top {w : World} {B : Nat} {v : Value} {f : Frm} {fs : List Frm} (h : w.ownsRow B 77 4 v (fs.length + 1) (fcells (f :: fs))) : ∃ g cap cur, v = .slice (some ⟨g, 0, none⟩) (fs.length + 1) cap ∧ B ≤ g ∧ w.heap[g]? = some (.cells cur 77 (0, 0)) ∧ fs.length + 1 ≤ cap ∧ cap ≤ maxLen ∧ cur.size = cap * 4 ∧ cur.toList.take ((fs.length + 1) * 4) = fcells (f :: fs) ∧
    cur[fs.length * 4]? = some f.1 ∧ cur[fs.length * 4 + 1]? = some (.int .i64 (f.2.1 : Nat)) ∧ cur[fs.length * 4 + 2]? = some (.int .i64 (f.2.2.1 : Nat)) ∧ cur[fs.length * 4 + 3]? = some (.int .i64 (f.2.2.2 : Nat)) := by
  rcases h.2 with ⟨_, h0⟩ | ⟨g, cap, cur, e1, e2, e3, e4, e5, e6, e7⟩
  · omega
  · have hj : ∀ j u, [f.1, .int .i64 (f.2.1 : Nat), .int .i64 (f.2.2.1 : Nat), .int .i64 (f.2.2.2 : Nat)][j]? = some u → cur[fs.length * 4 + j]? = some u := by
      intro j u hu
      have hjl : j < 4 := by
        have := (List.getElem?_eq_some_iff.1 hu).1
        simpa using this
      have h1 : (cur.toList.take ((fs.length + 1) * 4))[fs.length * 4 + j]? = some u := by
        rw [e7, fcells_cons, List.getElem?_append_right (by rw [fcells_len]; omega), fcells_len, show fs.length * 4 + j - fs.length * 4 = j from by omega]
        exact hu
      rw [List.getElem?_take_of_lt (by omega)] at h1
      simpa using h1
    exact ⟨g, cap, cur, e1, e2, e3, e4, e5, e6, e7, hj 0 _ rfl, hj 1 _ rfl, hj 2 _ rfl, hj 3 _ rfl⟩

/-- The top's numbers turn. -/
theorem row_turn {w w' : World} {B g cap : Nat} {cur cur' : Array Value} {f f' : Frm} {fs : List Frm} (hB : B ≤ g) (h1 : w.heap[g]? = some (.cells cur 77 (0, 0))) (h2 : fs.length + 1 ≤ cap) (h3 : cap ≤ maxLen) (h4 : cur.size = cap * 4) (h5 : cur.toList.take ((fs.length + 1) * 4) = fcells (f :: fs))
    (h6 : w'.heap[g]? = some (.cells cur' 77 (0, 0))) (h7 : cur'.size = cur.size) (h8 : ∀ j, j < fs.length * 4 → cur'[j]? = cur[j]?) (k0 : cur'[fs.length * 4]? = some f'.1) (k1 : cur'[fs.length * 4 + 1]? = some (.int .i64 (f'.2.1 : Nat))) (k2 : cur'[fs.length * 4 + 2]? = some (.int .i64 (f'.2.2.1 : Nat))) (k3 : cur'[fs.length * 4 + 3]? = some (.int .i64 (f'.2.2.2 : Nat))) :
    w'.ownsRow B 77 4 (.slice (some ⟨g, 0, none⟩) (fs.length + 1) cap) (fs.length + 1) (fcells (f' :: fs)) := by
  refine ⟨by rw [fcells_len]; rfl, .inr ⟨g, cap, cur', rfl, hB, h6, h2, h3, h7.trans h4, ?_⟩⟩
  rw [fcells_cons]
  apply List.ext_getElem?
  intro j
  rw [fcells_cons] at h5
  by_cases hj : j < fs.length * 4
  · rw [List.getElem?_take_of_lt (by omega), List.getElem?_append_left (by rw [fcells_len]; exact hj)]
    have := congrArg (fun l => l[j]?) h5
    rw [List.getElem?_take_of_lt (by omega), List.getElem?_append_left (by rw [fcells_len]; exact hj)] at this
    rw [← this]
    have := h8 j hj
    simpa using this
  · rw [List.getElem?_append_right (by rw [fcells_len]; omega), fcells_len]
    by_cases hj2 : j < (fs.length + 1) * 4
    · rw [List.getElem?_take_of_lt hj2]
      rcases (by omega : j = fs.length * 4 ∨ j = fs.length * 4 + 1 ∨ j = fs.length * 4 + 2 ∨ j = fs.length * 4 + 3) with rfl | rfl | rfl | rfl
      · rw [Nat.sub_self]; simpa using k0
      · rw [Nat.add_sub_cancel_left]; simpa using k1
      · rw [Nat.add_sub_cancel_left]; simpa using k2
      · rw [Nat.add_sub_cancel_left]; simpa using k3
    · rw [List.getElem?_eq_none (by rw [List.length_take]; omega), List.getElem?_eq_none (by simp only [List.length_cons, List.length_nil]; omega)]

/-- The top goes. -/
theorem row_pop {w : World} {B g cap : Nat} {cur : Array Value} {f : Frm} {fs : List Frm} (hB : B ≤ g) (h1 : w.heap[g]? = some (.cells cur 77 (0, 0))) (h2 : fs.length + 1 ≤ cap) (h3 : cap ≤ maxLen) (h4 : cur.size = cap * 4) (h5 : cur.toList.take ((fs.length + 1) * 4) = fcells (f :: fs)) :
    w.ownsRow B 77 4 (.slice (some ⟨g, 0, none⟩) fs.length cap) fs.length (fcells fs) := by
  refine ⟨fcells_len fs, .inr ⟨g, cap, cur, rfl, hB, h1, by omega, h3, h4, ?_⟩⟩
  have := congrArg (List.take (fs.length * 4)) h5
  rw [List.take_take, Nat.min_eq_left (by omega), fcells_cons, List.take_append_of_le_length (by rw [fcells_len]; exact Nat.le_refl _)] at this
  rw [this, List.take_of_length_le (by rw [fcells_len]; exact Nat.le_refl _)]

end Go.Proofs.Ytjdhkhpdhblhbaa

/- The walk through a term: the loop. -/
namespace Go.Proofs.Ytjdhkhpdhblhbaa
open Go.RowKit
set_option linter.unusedVariables false

/-- Each list that is under way but the outermost has some, in memory whose places may be held against each other. -/
def Solid (w : World) : List Frm → Prop
  | [] => True
  | [_] => True
  | f :: g :: r => (∃ b o len cp, f.1 = .slice (some ⟨b, o, none⟩) len cp ∧ 0 < len ∧ Plain w ⟨b, o, none⟩) ∧ Solid w (g :: r)

theorem Solid.turn {w : World} {v : Value} {nx c p nx' c' p' : Nat} {rest : List Frm} (h : Solid w ((v, nx, c, p) :: rest)) : Solid w ((v, nx', c', p') :: rest) := by
  cases rest with
  | nil => trivial
  | cons g r => exact h

/-- How the walk stands. -/
structure MInv (w wr : World) (C P mt W : Nat) (under : Value) (fs : List Frm) (f : Addr → Int → Option Value) : Prop where
  bel : Below w.heap.size w wr
  res : wr.heap[w.heap.size]? = some (.cells #[.int .i64 0, .int .i64 0] 56 (0, 0))
  en : wr.heap[w.heap.size + 1]? = some (.cells #[.int .i64 9223372036854775807, .int .i64 9223372036854775807] 56 (0, 0))
  map : SMap wr (w.heap.size + 1 + 1) f
  keys : KInv w fs f
  stk : Stk w C P fs 0 0 0 W
  row : wr.ownsRow (w.heap.size + 1 + 1 + 1) 77 4 under fs.length (fcells fs)
  work : mt + W ≤ 2 * C + 1
  unkept : mt ≤ 300 → ∀ x n, f x n = none
  solid : Solid w fs

theorem MInv.old {w wr V : World} {C P mt W : Nat} {under : Value} {fs : List Frm} {f : Addr → Int → Option Value} (h : MInv w wr C P mt W under fs f) (hV : ∀ j, j < w.heap.size + 1 + 1 + 1 → V.heap[j]? = wr.heap[j]?) : SMap V (w.heap.size + 1 + 1) f :=
  h.map.kept (hV _ (by omega)) fun x n v hf _ => by
    have hp := (h.keys x n v hf).1
    have hl := hp.lt
    obtain ⟨c, t, hc⟩ := hp
    exact ⟨c, t, (hV _ (by omega)).trans ((h.bel.block _ hl).trans hc)⟩

/-- The top's numbers turn. -/
theorem MInv.top {w wr V : World} {C P mt W W' nx c p nx' c' p' g cap : Nat} {v : Value} {rest : List Frm} {f : Addr → Int → Option Value} {cur : Array Value} (h : MInv w wr C P mt W (.slice (some ⟨g, 0, none⟩) (rest.length + 1) cap) ((v, nx, c, p) :: rest) f)
    (HG : w.heap.size + 1 + 1 + 1 ≤ g ∧ wr.heap[g]? = some (.cells cur 77 (0, 0)) ∧ rest.length + 1 ≤ cap ∧ cap ≤ maxLen ∧ cur.size = cap * 4 ∧ cur.toList.take ((rest.length + 1) * 4) = fcells ((v, nx, c, p) :: rest)) (hT : Turned g wr V) {cur' : Array Value}
    (h6 : V.heap[g]? = some (.cells cur' 77 (0, 0))) (h7 : cur'.size = cur.size) (h8 : ∀ j, j < rest.length * 4 → cur'[j]? = cur[j]?) (k0 : cur'[rest.length * 4]? = some v) (k1 : cur'[rest.length * 4 + 1]? = some (.int .i64 (nx' : Nat))) (k2 : cur'[rest.length * 4 + 2]? = some (.int .i64 (c' : Nat))) (k3 : cur'[rest.length * 4 + 3]? = some (.int .i64 (p' : Nat)))
    (hst : Stk w C P ((v, nx', c', p') :: rest) 0 0 0 W') (hwk : mt + W' ≤ 2 * C + 1) : MInv w V C P mt W' (.slice (some ⟨g, 0, none⟩) (rest.length + 1) cap) ((v, nx', c', p') :: rest) f := by
  obtain ⟨g0, g1, g2, g3, g4, g5⟩ := HG
  have hgz : g < wr.heap.size := Nat.lt_of_not_le fun hn => by rw [Array.getElem?_eq_none hn] at g1; cases g1
  have hV : ∀ j, j < w.heap.size + 1 + 1 + 1 → V.heap[j]? = wr.heap[j]? := fun j hj => hT.block j (by omega) (by omega)
  exact ⟨h.bel.trans (hT.below (by omega) h.bel.size), (hV _ (by omega)).trans h.res, (hV _ (by omega)).trans h.en, h.old hV, h.keys.turn, hst, row_turn (f' := (v, nx', c', p')) g0 g1 g2 g3 g4 g5 h6 h7 h8 k0 k1 k2 k3, hwk, h.unkept, h.solid.turn⟩

/-- A list comes on top. -/
theorem MInv.push {w wr Z w4 : World} {C P mt W W' nx c p g : Nat} {under v lv v' : Value} {rest : List Frm} {f f' : Addr → Int → Option Value} {ob : Obj} (h : MInv w wr C P mt W under ((v, nx, c, p) :: rest) f) (hg : w.heap.size + 1 + 1 + 1 ≤ g)
    (hbZ : Below w.heap.size w Z) (hzs : w.heap.size + 1 + 1 + 1 ≤ Z.heap.size) (hres : Z.heap[w.heap.size]? = wr.heap[w.heap.size]?) (hen : Z.heap[w.heap.size + 1]? = wr.heap[w.heap.size + 1]?) (hm : SMap Z (w.heap.size + 1 + 1) f') (hk : KInv w ((lv, 0, 0, 0) :: (v, nx + 1, c, p) :: rest) f')
    (hgr : (Z.alloc ob).grownBy w4 (some g)) (hown : w4.ownsRow (w.heap.size + 1 + 1 + 1) 77 4 v' (rest.length + 1 + 1) (fcells ((v, nx + 1, c, p) :: rest) ++ [lv, .int .i64 0, .int .i64 0, .int .i64 0])) (hst : Stk w C P ((lv, 0, 0, 0) :: (v, nx + 1, c, p) :: rest) 0 0 0 W') (hwk : mt + 1 + W' ≤ 2 * C + 1) (hun : mt + 1 ≤ 300 → ∀ x n, f' x n = none) (hsl : ∃ b o len cp, lv = .slice (some ⟨b, o, none⟩) len cp ∧ 0 < len ∧ Plain w ⟨b, o, none⟩) :
    MInv w w4 C P (mt + 1) W' v' ((lv, 0, 0, 0) :: (v, nx + 1, c, p) :: rest) f' := by
  have hV : ∀ j, j < w.heap.size + 1 + 1 + 1 → w4.heap[j]? = Z.heap[j]? := fun j hj => (hgr.block j (by simp; omega) (by simp; omega)).trans (Below.heap_alloc Z _ j (by omega))
  refine ⟨hbZ.trans (((Below.refl w.heap.size Z).alloc hbZ.size _).grown hgr (by simp; have := hbZ.size; omega) (fun k hk => by cases hk; omega)), (hV _ (by omega)).trans (hres.trans h.res), (hV _ (by omega)).trans (hen.trans h.en), hm.kept (hV _ (by omega)) ?_, hk, hst, ?_, hwk, hun, ⟨hsl, h.solid.turn⟩⟩
  · intro x n u hu _
    have hp := (hk x n u hu).1
    have hl := hp.lt
    obtain ⟨c, t, hc⟩ := hp
    exact ⟨c, t, (hV _ (by omega)).trans ((hbZ.block _ hl).trans hc)⟩
  · rw [fcells_cons]
    exact hown

/-- The top has gone, and what it came to is put to the one around it. -/
theorem MInv.pop {w wr V w' : World} {C P mt W nx c p nx2 c2 p2 g cap : Nat} {a : Option Addr} {len cp : Nat} {under v2 : Value} {rest : List Frm} {f f' : Addr → Int → Option Value} {cur : Array Value} (h : MInv w wr C P mt W under ((.slice a len cp, nx, c, p) :: (v2, nx2, c2, p2) :: rest) f) (hlt : ¬ nx < len)
    (hg0 : w.heap.size + 1 + 1 + 1 ≤ g) (hcap : rest.length + 1 + 1 ≤ cap) (hcap2 : cap ≤ maxLen) (hsz : cur.size = cap * 4) (htk : cur.toList.take ((rest.length + 1 + 1) * 4) = fcells ((.slice a len cp, nx, c, p) :: (v2, nx2, c2, p2) :: rest))
    (hbV : Below w.heap.size w V) (hgV : V.heap[g]? = some (.cells cur 77 (0, 0))) (hold : ∀ j, j < w.heap.size + 1 + 1 → V.heap[j]? = wr.heap[j]?) (hm : SMap V (w.heap.size + 1 + 1) f') (hk : KInv w ((v2, nx2, c2, p2) :: rest) f') (hun : mt ≤ 300 → ∀ x n, f' x n = none)
    (hT : Turned g V w') (h6 : w'.heap[g]? = some (.cells ((cur.setIfInBounds (rest.length * 4 + 2) (.int .i64 (c2 + (c + 1) : Nat))).setIfInBounds (rest.length * 4 + 2 + 1) (.int .i64 (max p2 (p + 1) : Nat))) 77 (0, 0))) :
    MInv w w' C P mt (W - 1) (.slice (some ⟨g, 0, none⟩) (rest.length + 1) cap) ((v2, nx2, c2 + (c + 1), max p2 (p + 1)) :: rest) f' := by
  obtain ⟨d, ts, s1, s2, s3, s4, s5⟩ := h.stk.pop hlt
  have hgz : g < V.heap.size := Nat.lt_of_not_le fun hn => by rw [Array.getElem?_eq_none hn] at hgV; cases hgV
  have hV : ∀ j, j < w.heap.size + 1 + 1 + 1 → w'.heap[j]? = V.heap[j]? := fun j hj => hT.block j (by omega) (by omega)
  have hrow := row_pop (f := (.slice a len cp, nx, c, p)) (fs := (v2, nx2, c2, p2) :: rest) hg0 hgV hcap hcap2 hsz htk
  obtain ⟨g', cap', cur', q1, q2, q3, q4, q5, q6, q7, k0, k1, k2, k3⟩ := row_top hrow
  simp only [Value.slice.injEq, Option.some.injEq, Addr.mk.injEq, and_true] at q1
  obtain ⟨rfl, rfl⟩ : g = g' ∧ cap = cap' := ⟨q1.1, q1.2.2⟩
  have e : cur = cur' := by rw [hgV] at q3; simpa using q3
  subst e
  refine ⟨hbV.trans (hT.below (by omega) hbV.size), (hV _ (by omega)).trans ((hold _ (by omega)).trans h.res), (hV _ (by omega)).trans ((hold _ (by omega)).trans h.en), hm.kept (hV _ (by omega)) ?_, hk.turn, s4.take, row_turn (f' := (v2, nx2, c2 + (c + 1), max p2 (p + 1))) q2 hgV q4 q5 q6 q7 h6 (by simp) (fun j hj => ?_) ?_ ?_ ?_ ?_, by have := h.work; omega, hun, h.solid.2.turn⟩
  · intro x n u hu _
    have hp := (hk x n u hu).1
    have hl := hp.lt
    obtain ⟨c, t, hc⟩ := hp
    exact ⟨c, t, (hV _ (by omega)).trans ((hbV.block _ hl).trans hc)⟩
  · rw [Array.getElem?_setIfInBounds_ne (by omega), Array.getElem?_setIfInBounds_ne (by omega)]
  · rw [Array.getElem?_setIfInBounds_ne (by omega), Array.getElem?_setIfInBounds_ne (by omega)]; exact k0
  · rw [Array.getElem?_setIfInBounds_ne (by omega), Array.getElem?_setIfInBounds_ne (by omega)]; exact k1
  · rw [Array.getElem?_setIfInBounds_ne (by omega), Array.getElem?_setIfInBounds_self_of_lt (by omega)]
  · rw [Array.getElem?_setIfInBounds_self_of_lt (by simp; omega)]

theorem Try.infoMeasuring : (Try.prog.info? 77).map (fun i => (i.zero, i.size, i.bytes)) = some (some (.agg #[.slice none 0 0, .int .i64 0, .int .i64 0, .int .i64 0]), 4, 48) := by kernel_rfl

theorem len_cnt {d : Nat} (ts : List (Tm d)) : ts.length ≤ cntL d ts := by
  cases d with
  | zero => rw [tm0 ts]; exact Nat.zero_le _
  | succ d =>
    show ts.length ≤ (List.map _ _).sum
    induction ts with
    | nil => exact Nat.zero_le _
    | cons u us ih => simp only [List.length_cons, List.map_cons, List.sum_cons]; omega

theorem Stk.topLen {w : World} {C P W nx c p len cp lo ac ap : Nat} {a : Option Addr} {rest : List Frm} (h : Stk w C P ((.slice a len cp, nx, c, p) :: rest) lo ac ap W) : len ≤ C := by
  obtain ⟨T, D, rc, rp, W', ⟨d, ts, h1, h2, h3, _⟩, _, _, _, h5, _⟩ := h
  have hb := h5.bd.1
  have := len_cnt ts
  obtain ⟨a1, c1, e⟩ := h1.len
  simp only [Value.slice.injEq] at e
  omega

theorem wrap_m3 (m : Nat) (h : m ≤ 1099511627776) : IntKind.i64.wrap (m : Int) = (m : Int) := by rw [IntKind.wrap_i64]; omega
theorem wrap_m4 (m : Nat) (h : m ≤ 1099511627776) : wrap64 (m : Int) = (m : Int) := by unfold wrap64; omega
theorem wrap_m2 (m : Nat) (h : m ≤ 1099511627776) : IntKind.i64.wrap ((m : Int) + 1 - 1) = (m : Int) := by rw [IntKind.wrap_i64]; omega

theorem exists_min {p : Nat → Prop} (h : ∃ n, p n) : ∃ n, p n ∧ ∀ m, p m → n ≤ m := by
  obtain ⟨n, hn⟩ := h
  induction n using Nat.strongRecOn with
  | ind n ih =>
    by_cases h : ∃ m, m < n ∧ p m
    · obtain ⟨m, h1, h2⟩ := h
      exact ih m h1 h2
    · exact ⟨n, hn, fun m hm => Nat.le_of_not_lt fun hl => h ⟨m, hl, hm⟩⟩

/-- What stands at a place of two slots and a world, with work to be done: there is a measure of it. -/
theorem least_work (p : Value → Value → World → Nat → Prop) : ∃ μ : Value → Value → World → Nat, ∀ a b c n, p a b c n → p a b c (μ a b c) ∧ μ a b c ≤ n := by
  have h : ∀ x : Value × Value × World, ∃ m, ∀ n, p x.1 x.2.1 x.2.2 n → p x.1 x.2.1 x.2.2 m ∧ m ≤ n := fun x => by
    by_cases hx : ∃ n, p x.1 x.2.1 x.2.2 n
    · obtain ⟨m, h1, h2⟩ := exists_min hx
      exact ⟨m, fun n hn => ⟨h1, h2 n hn⟩⟩
    · exact ⟨0, fun n hn => absurd ⟨n, hn⟩ hx⟩
  obtain ⟨g, hg⟩ := Classical.axiomOfChoice h
  exact ⟨fun a b c => g (a, b, c), fun a b c n hn => hg (a, b, c) n hn⟩

/-- What stands at the slots. -/
def MAt (w : World) (C P : Nat) (met under : Value) (wr : World) (W : Nat) : Prop := ∃ (mt : Nat) (fs : List Frm) (f : Addr → Int → Option Value), met = .int .i64 mt ∧ MInv w wr C P mt W under fs f

set_option maxRecDepth 100000 in
set_option maxHeartbeats 4000000 in
theorem measureOf_any (d : Nat) (v : Value) (ts : List (Tm d)) (w : World) (hr : RdQ d w v ts) (hc : cntL d ts ≤ 1099511627776) :
    Calls Try.prog 38 #[v] w fun e w' => e = .returned (.agg #[.int .i64 (cntL d ts : Nat), .int .i64 (depL d ts : Nat)]) ∧ Below w.heap.size w w' := by
  obtain ⟨a0, c0, hv⟩ := hr.len
  obtain ⟨len0, hlen0⟩ : ∃ n, ts.length = n := ⟨_, rfl⟩
  rw [hlen0] at hv
  have HST : Hid (Stk w (cntL d ts) (depL d ts) [(v, 0, 0, 0)] 0 0 0 (2 * cntL d ts + 1)) := Stk.start hr
  have hPC := depL_cntL d ts
  subst hv
  clear hlen0 hr
  obtain ⟨C, hC⟩ : ∃ C, cntL d ts = C := ⟨_, rfl⟩
  obtain ⟨P, hP⟩ : ∃ P, depL d ts = P := ⟨_, rfl⟩
  rw [hC] at hc hPC HST ⊢
  rw [hP] at hPC HST ⊢
  clear hC hP
  have H0 : Hid (MInv w ((((w.alloc (.cells #[.int .i64 0, .int .i64 0] 56)).alloc (.cells #[.int .i64 9223372036854775807, .int .i64 9223372036854775807] 56)).alloc (.map #[] 0)).alloc (.cells #[.slice a0 len0 c0, .int .i64 0, .int .i64 0, .int .i64 0] 77)) C P 0 (2 * C + 1)
      (.slice (some ⟨w.heap.size + 1 + 1 + 1, 0, none⟩) 1 1) [(.slice a0 len0 c0, 0, 0, 0)] fun _ _ => .none) := by
    obtain ⟨w1, h1⟩ : ∃ w1, w1 = w.alloc (.cells #[.int .i64 0, .int .i64 0] 56) := ⟨_, rfl⟩
    obtain ⟨w2, h2⟩ : ∃ w2, w2 = w1.alloc (.cells #[.int .i64 9223372036854775807, .int .i64 9223372036854775807] 56) := ⟨_, rfl⟩
    obtain ⟨w3, h3⟩ : ∃ w3, w3 = w2.alloc (.map #[] 0) := ⟨_, rfl⟩
    obtain ⟨w4, h4⟩ : ∃ w4, w4 = w3.alloc (.cells #[.slice a0 len0 c0, .int .i64 0, .int .i64 0, .int .i64 0] 77) := ⟨_, rfl⟩
    have z1 : w1.heap.size = w.heap.size + 1 := by rw [h1]; simp
    have z2 : w2.heap.size = w.heap.size + 1 + 1 := by rw [h2]; simp [z1]
    have z3 : w3.heap.size = w.heap.size + 1 + 1 + 1 := by rw [h3]; simp [z2]
    have b1 : Below w.heap.size w w1 := by rw [h1]; exact (Below.refl _ _).alloc (Nat.le_refl _) _
    have b2 : Below w1.heap.size w1 w2 := by rw [h2]; exact (Below.refl _ _).alloc (Nat.le_refl _) _
    have b3 : Below w2.heap.size w2 w3 := by rw [h3]; exact (Below.refl _ _).alloc (Nat.le_refl _) _
    have b4 : Below w3.heap.size w3 w4 := by rw [h4]; exact (Below.refl _ _).alloc (Nat.le_refl _) _
    have n1 : w1.heap[w.heap.size]? = some (.cells #[.int .i64 0, .int .i64 0] 56 (0, 0)) := by rw [h1]; exact heap_alloc_new w _
    have n2 : w2.heap[w1.heap.size]? = some (.cells #[.int .i64 9223372036854775807, .int .i64 9223372036854775807] 56 (0, 0)) := by rw [h2]; exact heap_alloc_new w1 _
    have n4 : w4.heap[w3.heap.size]? = some (.cells #[.slice a0 len0 c0, .int .i64 0, .int .i64 0, .int .i64 0] 77 (0, 0)) := by rw [h4]; exact heap_alloc_new w3 _
    have m3 : SMap w3 w2.heap.size fun _ _ => Option.none := by rw [h3]; exact SMap.made w2
    rw [← h1, ← h2, ← h3, ← h4]
    rw [z1] at n2
    rw [z2] at m3
    rw [z3] at n4
    exact ⟨b1.trans ((b2.trans ((b3.trans (b4.mono b3.size)).mono b2.size)).mono b1.size), (b4.block _ (by omega)).trans ((b3.block _ (by omega)).trans ((b2.block _ (by omega)).trans n1)), (b4.block _ (by omega)).trans ((b3.block _ (by omega)).trans n2), m3.kept (b4.block _ (by omega)) (fun x n v h => by cases h), KInv.none fun _ _ => rfl, HST.out, ⟨rfl, .inr ⟨_, 1, _, rfl, Nat.le_refl _, n4, Nat.le_refl _, by unfold maxLen; omega, rfl, rfl⟩⟩, by omega, fun _ _ _ => rfl, trivial⟩
  clear HST
  obtain ⟨μ, hμ⟩ := least_work (MAt w C P)
  have HMU : Hid (∀ a b c n, MAt w C P a b c n → MAt w C P a b c (μ a b c) ∧ μ a b c ≤ n) := hμ
  clear hμ
  have hmm := @run_makeMap Try.prog
  go_enter Try.func38, Try.ntmps38
  go_wp2_with fail
  go_loopw [5, 6] (fun met under wr => Hid (∃ W, MAt w C P met under wr W)) (fun met under wr => μ met under wr)
  case atStart => exact ⟨_, 0, _, _, rfl, H0.out⟩
  case round =>
    obtain ⟨W0, hW0⟩ := hrel.out
    have hM := (HMU.out _ _ _ _ hW0).1
    obtain ⟨W, hWe⟩ : ∃ W, μ u5 u6 wr = W := ⟨_, rfl⟩
    rw [hWe] at hM
    have HWE : Hid (μ u5 u6 wr = W) := hWe
    clear H0 hrel hW0 hWe
    obtain ⟨mt, fs, f, rfl, hI⟩ := hM
    obtain ⟨top, rest, rfl⟩ : ∃ top rest, fs = top :: rest := by
      cases fs with
      | nil => have := hI.stk.1; omega
      | cons top rest => exact ⟨top, rest, rfl⟩
    obtain ⟨vt, nx, c, p⟩ := top
    obtain ⟨a, len, cp, rfl, hnx⟩ : ∃ a len cp, vt = .slice a len cp ∧ nx ≤ len := by
      obtain ⟨T, D, rc, rp, W', h1, _⟩ := hI.stk
      exact h1.slice
    obtain ⟨g, cap, cur, rfl, hg0, hg, hg1, hg2, hg3, hg4, k0, k1, k2, k3⟩ := row_top hI.row
    have HN : Hid (rest.length + 1 ≤ C + 1) := by have := hI.stk.bd.1; simp only [List.length_cons] at this; show _ ≤ _; omega
    have t0 : wr.cell? ⟨g, rest.length * 4, none⟩ = some (.slice a len cp) := by rw [cell_of_row wr _ _ _ _ _ hg]; exact k0
    have t1 : wr.cell? ⟨g, rest.length * 4 + 1, none⟩ = some (.int .i64 nx) := by rw [cell_of_row wr _ _ _ _ _ hg]; exact k1
    have t2 : wr.cell? ⟨g, rest.length * 4 + 2, none⟩ = some (.int .i64 c) := by rw [cell_of_row wr _ _ _ _ _ hg]; exact k2
    have t3 : wr.cell? ⟨g, rest.length * 4 + 3, none⟩ = some (.int .i64 p) := by rw [cell_of_row wr _ _ _ _ _ hg]; exact k3
    have y1 : wr.frozen? ⟨g, rest.length * 4 + 1, none⟩ = false := frozen_of_row wr _ _ _ _ hg
    obtain ⟨n, hn⟩ : ∃ n, rest.length = n := ⟨_, rfl⟩
    have HL : Hid (rest.length = n) := hn
    have HI : Hid (MInv w wr C P mt W (.slice (some ⟨g, 0, none⟩) (rest.length + 1) cap) ((.slice a len cp, nx, c, p) :: rest) f) := hI
    have HK : Hid (cur[rest.length * 4]? = some (.slice a len cp) ∧ cur[rest.length * 4 + 1]? = some (.int .i64 nx) ∧ cur[rest.length * 4 + 2]? = some (.int .i64 c) ∧ cur[rest.length * 4 + 3]? = some (.int .i64 p)) := ⟨k0, k1, k2, k3⟩
    have HG : Hid (w.heap.size + 1 + 1 + 1 ≤ g ∧ wr.heap[g]? = some (.cells cur 77 (0, 0)) ∧ rest.length + 1 ≤ cap ∧ cap ≤ maxLen ∧ cur.size = cap * 4 ∧ cur.toList.take ((rest.length + 1) * 4) = fcells ((.slice a len cp, nx, c, p) :: rest)) := ⟨hg0, hg, hg1, hg2, hg3, hg4⟩
    rw [hn] at t0 t1 t2 t3 y1 ⊢
    have hn1 : n ≤ 1099511627776 := by have := HN.out; omega
    clear hn hI hg0 hg hg1 hg2 hg3 hg4 k0 k1 k2 k3 HN
    by_cases hlt : nx < len
    · obtain ⟨b, o, kk, nn, ss, lv, T', rp', rfl, h4, ⟨d', ts', hrd, hT', hrp'⟩, hb1, hb2, hb3, hst, hwk⟩ := HI.out.stk.step hlt
      obtain ⟨pa, pc, elv⟩ := hrd.len
      obtain ⟨pl, hpl⟩ : ∃ pl, ts'.length = pl := ⟨_, rfl⟩
      rw [hpl] at elv
      subst elv
      have l3 := cell_later HI.out.bel h4.2.2.2
      have hlt' : (nx : Int) < (len : Int) := by omega
      have hlC : len ≤ C := HI.out.stk.topLen
      have hnx1 : nx ≤ 1099511627776 := by omega
      have HST : Hid (Stk w C P ((.slice (some ⟨b, o, none⟩) len cp, nx + 1, c, p) :: rest) (T' + 1) (T' + 1) (rp' + 1) (W - 2 * (T' + 1)) ∧ 2 * (T' + 1) < W) := ⟨hst, hwk⟩
      clear h4 hst hwk
      have HKN : Hid (pl = 0 ∨ (0 < pl ∧ ∃ b2 o2, pa = some ⟨b2, o2, none⟩ ∧ Plain w ⟨b2, o2, none⟩)) := by
        by_cases hz : pl = 0
        · exact .inl hz
        · refine .inr ⟨by omega, ?_⟩
          cases d' with
          | zero => rw [tm0 ts'] at hpl; exact absurd hpl.symm hz
          | succ d' =>
            obtain ⟨a1, c1, e1, h6⟩ := hrd
            simp only [Value.slice.injEq] at e1
            obtain ⟨b2, o2, lv2, g1, g2, _⟩ := h6 0 ts'[0] (List.getElem?_eq_getElem (by omega))
            exact ⟨b2, o2, e1.1.trans g1, g2⟩
      have HRD : Hid (RdQ d' w (.slice pa pl pc) ts') := hrd
      clear hrd
      go_wp2_with fail
      go_cut [30] (fun v wx => v = .bool true ∧ Below wr.heap.size wr wx)
      case first =>
        go_region_with (fail)
        all_goals
          go_wp2_with fail
          go_meet
          case rel => exact ⟨rfl, by first | exact (Below.refl _ _).drew | exact Below.refl _ _ | exact (Below.refl _ _).drew.drew⟩
      case rest =>
        obtain ⟨rfl, hbc⟩ := hcut
        obtain ⟨w1, hw1⟩ : ∃ w1, w1 = wc := ⟨_, rfl⟩
        subst hw1
        have t0' := cell_later hbc t0
        have t1' := cell_later hbc t1
        have l3' := cell_later hbc l3
        go_wp2_with fail
        have HPT : Hid (∀ W : World, Calls Try.prog 108 #[.pointer (some ⟨b, o + nx * 4, none⟩)] W fun e w' => e = .returned (.pointer (some ⟨b, o + nx * 4 + 3, none⟩)) ∧ W = w') := fun W => tpParts_any b (o + nx * 4) W
        go_cut [8] (fun v wx => v = .slice pa pl pc ∧ Below w1.heap.size w1 wx)
        case first =>
          go_region_with (go_at_call 108; refine (HPT.out _).mono ?_; rintro e w5 ⟨rfl, rfl⟩)
          all_goals
            go_wp2_with fail
            go_meet
            case rel => exact ⟨rfl, by first | exact (Below.refl _ _).drew | exact Below.refl _ _ | exact (Below.refl _ _).drew.drew⟩
        case rest =>
          obtain ⟨rfl, hbd⟩ := hcut
          obtain ⟨w2, hw2⟩ : ∃ w2, w2 = wc := ⟨_, rfl⟩
          subst hw2
          have hbe : Below wr.heap.size wr w2 := hbc.trans (hbd.mono hbc.size)
          have hgz : g < wr.heap.size := by have := HG.out.2.1; exact Nat.lt_of_not_le fun hn => by rw [Array.getElem?_eq_none hn] at this; cases this
          have hg2 : w2.heap[g]? = some (.cells cur 77 (0, 0)) := (hbe.block g hgz).trans HG.out.2.1
          have t1'' := cell_later hbe t1
          have y1'' : w2.frozen? ⟨g, n * 4 + 1, none⟩ = false := frozen_of_row w2 _ _ _ _ hg2
          obtain ⟨X, hX⟩ : ∃ X, X = w2.setCell ⟨g, n * 4 + 1, none⟩ (.int .i64 (↑nx + 1)) := ⟨_, rfl⟩
          have hgX : X.heap[g]? = some (.cells (cur.setIfInBounds (n * 4 + 1) (.int .i64 (↑nx + 1))) 77 (0, 0)) := by rw [hX]; exact heap_setCell_same w2 g _ _ _ _ hg2
          have hTX : Turned g wr X := by rw [hX]; exact (Turned.of_below hbe).trans (Turned.of_set w2 g _ _)
          have hgz0 := HG.out.1
          have hMX : SMap X (w.heap.size + 1 + 1) f := HI.out.old fun j hj => hTX.block j (by omega) (by omega)
          have hbX : Below w.heap.size w X := HI.out.bel.trans (hTX.below (by omega) HI.out.bel.size)
          have hXz := hTX.size
          have HCASE : Hid ((Calls Try.prog 57 #[.map (some (w.heap.size + 1 + 1)), .slice pa pl pc] X fun e w' => e = .returned (.tuple #[.agg #[.int .i64 (T' : Nat), .int .i64 (rp' : Nat)], .bool true]) ∧ Below X.heap.size X w') ∨
              (0 < pl ∧ ∃ b2 o2, pa = some ⟨b2, o2, none⟩ ∧ Plain w ⟨b2, o2, none⟩ ∧ f ⟨b2, o2, none⟩ pl = none ∧ Calls Try.prog 57 #[.map (some (w.heap.size + 1 + 1)), .slice pa pl pc] X fun e w' => e = .returned (.tuple #[.agg #[.int .i64 0, .int .i64 0], .bool false]) ∧ Below X.heap.size X w')) := by
            rcases HKN.out with hz | ⟨hz, b2, o2, rfl, hp2⟩
            · left
              subst hz
              have e0 : ts' = [] := List.length_eq_zero_iff.1 hpl
              have e1 : T' = 0 := by rw [← hT', e0]; exact cntL_nil _
              have e2 : rp' = 0 := by rw [← hrp', e0]; exact depL_nil _
              rw [e1, e2]
              exact measureKnown_empty pa pc _ X
            · have hpl1 : pl ≤ 9223372036854775807 := by
                have h1 := len_cnt ts'
                omega
              cases hf : f ⟨b2, o2, none⟩ pl with
              | none =>
                right
                exact ⟨hz, b2, o2, rfl, hp2, hf, measureKnown_any b2 o2 pl pc _ f X hz hpl1 hMX (hp2.later hbX) 0 0 false (by rw [hf]; rfl) (by rw [hf]; rfl)⟩
              | some v =>
                left
                have hv := HI.out.keys.turn.hit (HST.out.1) HRD.out (by omega) hf
                rw [hT', hrp'] at hv
                exact measureKnown_any b2 o2 pl pc _ f X hz hpl1 hMX (hp2.later hbX) T' rp' true (by rw [hf, hv]; rfl) (by rw [hf]; rfl)
          have HX : Hid (X = _) := hX
          have HGX : Hid (X.heap[g]? = some (.cells (cur.setIfInBounds (n * 4 + 1) (.int .i64 (↑nx + 1))) 77 (0, 0))) := hgX
          have HTX : Hid (Turned g wr X) := hTX
          rcases HCASE.out with hC | ⟨hpl0, b2, o2, rfl, hp2, hf, hC⟩
          · clear HCASE HKN t0 t1 t2 t3 y1 l3 t0' t1' l3' hbc hbd hbe hg2 hMX hgX hTX
            rw [hX] at hC
            clear hX
            go_wp2_with fail
            refine hC.mono ?_
            clear hC
            rintro e w3 ⟨rfl, hbw⟩
            rw [← HX.out] at hbw
            have HADD : Hid (∀ V : World, Below w3.heap.size w3 V → Calls Try.prog 58 #[.pointer (some ⟨g, n * 4 + 2, none⟩), .agg #[.int .i64 (T' : Nat), .int .i64 (rp' : Nat)]] V fun e w' => e = .returned (.tuple #[]) ∧ Hid (MInv w w' C P mt (W - 2 * (T' + 1)) (.slice (some ⟨g, 0, none⟩) (n + 1) cap) ((.slice (some ⟨b, o, none⟩) len cp, nx + 1, c + (T' + 1), max p (rp' + 1)) :: rest) f)) := fun V hV => by
              have e := HL.out
              subst e
              have hbV : Below X.heap.size X V := hbw.trans (hV.mono hbw.size)
              have hgV := (hbV.block g (by omega)).trans HGX.out
              obtain ⟨q0, q1, q2, q3⟩ := HK.out
              have hsz := HG.out.2.2.2.2.1
              have hcp := HG.out.2.2.1
              refine (add_any g (rest.length * 4 + 2) _ c p T' rp' V hgV (by rw [Array.getElem?_setIfInBounds_ne (by omega)]; exact q2) (by rw [Array.getElem?_setIfInBounds_ne (by omega)]; exact q3) (by omega) (by omega) (by omega) (by omega)).mono ?_
              rintro e w' ⟨rfl, h1, h2⟩
              refine ⟨rfl, HI.out.top HG.out ((HTX.out.trans (Turned.of_below hbV)).trans h2) h1 (by simp) (fun j hj => ?_) ?_ ?_ ?_ ?_ HST.out.1.take (by have := HI.out.work; omega)⟩
              · rw [Array.getElem?_setIfInBounds_ne (by omega), Array.getElem?_setIfInBounds_ne (by omega), Array.getElem?_setIfInBounds_ne (by omega)]
              · rw [Array.getElem?_setIfInBounds_ne (by omega), Array.getElem?_setIfInBounds_ne (by omega), Array.getElem?_setIfInBounds_ne (by omega)]; exact q0
              · rw [Array.getElem?_setIfInBounds_ne (by omega), Array.getElem?_setIfInBounds_ne (by omega), Array.getElem?_setIfInBounds_self_of_lt (by omega)]; rfl
              · rw [Array.getElem?_setIfInBounds_ne (by omega), Array.getElem?_setIfInBounds_self_of_lt (by simp; omega)]
              · rw [Array.getElem?_setIfInBounds_self_of_lt (by simp; omega)]
            clear HX HGX HTX hbw t1'' y1'' hbX HRD
            go_wp2_with fail
            go_region_with (go_at_call 58; refine (HADD.out _ (by first | exact ((Below.refl _ _).alloc (Nat.le_refl _) _).drew | exact (Below.refl _ _).alloc (Nat.le_refl _) _ | exact (Below.refl _ _).drew)).mono ?_; rintro e w4 ⟨rfl, HM4⟩)
            all_goals
              go_wp2_with fail
              go_roundw
              case rel => exact ⟨_, mt, _, f, rfl, HM4.out⟩
              case measure =>
                have h1 := (HMU.out _ _ _ _ ⟨mt, _, f, rfl, HM4.out⟩).2
                have h2 := HWE.out
                have h3 := HST.out.2
                rw [HL.out] at h2
                omega
          · clear HCASE HKN t0 t1 t2 t3 y1 l3 t0' t1' l3' hbc hbd hbe hg2 hMX hgX hTX
            rw [hX] at hC
            clear hX
            go_wp2_with fail
            refine hC.mono ?_
            clear hC
            rintro e w3 ⟨rfl, hbw⟩
            rw [← HX.out] at hbw
            have hVz : (w3.alloc (.cells #[.int .i64 0, .int .i64 0] 56)).heap.size = w3.heap.size + 1 := by simp
            have hbV : Below X.heap.size X (w3.alloc (.cells #[.int .i64 0, .int .i64 0] 56)) := hbw.trans (((Below.refl _ _).alloc (Nat.le_refl _) _).mono hbw.size)
            have hT3 : Turned g wr (w3.alloc (.cells #[.int .i64 0, .int .i64 0] 56)) := HTX.out.trans (Turned.of_below hbV)
            have hg3 := (hbV.block g (by omega)).trans HGX.out
            have hb3w : Below w.heap.size w (w3.alloc (.cells #[.int .i64 0, .int .i64 0] 56)) := hbX.trans (hbV.mono hbX.size)
            have hz3 : g < w3.heap.size := Nat.lt_of_lt_of_le (by omega) hbw.size
            have hnw : wr.heap.size ≤ (w3.alloc (.cells #[.int .i64 0, .int .i64 0] 56)).heap.size := hT3.size
            have hen3 : (w3.alloc (.cells #[.int .i64 0, .int .i64 0] 56)).heap[w.heap.size + 1]? = some (.cells #[.int .i64 9223372036854775807, .int .i64 9223372036854775807] 56 (0, 0)) := (hT3.block _ (by omega) (by omega)).trans HI.out.en
            have hrow3 : (w3.alloc (.cells #[.int .i64 0, .int .i64 0] 56)).ownsRow (w.heap.size + 1 + 1 + 1) 77 4 (.slice (some ⟨g, 0, none⟩) (n + 1) cap) (n + 1) (fcells ((.slice (some ⟨b, o, none⟩) len cp, nx + 1, c, p) :: rest)) := by
              have e := HL.out
              subst e
              obtain ⟨q0, q1, q2, q3⟩ := HK.out
              obtain ⟨g0, g1, g2, g3, g4, g5⟩ := HG.out
              refine row_turn (f' := (.slice (some ⟨b, o, none⟩) len cp, nx + 1, c, p)) g0 g1 g2 g3 g4 g5 hg3 (by simp) (fun j hj => by rw [Array.getElem?_setIfInBounds_ne (by omega)]) ?_ ?_ ?_ ?_
              · rw [Array.getElem?_setIfInBounds_ne (by omega)]; exact q0
              · rw [Array.getElem?_setIfInBounds_self_of_lt (by omega)]; rfl
              · rw [Array.getElem?_setIfInBounds_ne (by omega)]; exact q2
              · rw [Array.getElem?_setIfInBounds_ne (by omega)]; exact q3
            have HPU : Hid (∀ (Z w4 : World) (v' : Value) (f' : Addr → Int → Option Value) (ob : Obj), Below w.heap.size w Z → wr.heap.size ≤ Z.heap.size → (∀ j, j < w.heap.size + 1 + 1 → Z.heap[j]? = wr.heap[j]?) → SMap Z (w.heap.size + 1 + 1) f' → KInv w ((.slice (some ⟨b2, o2, none⟩) pl pc, 0, 0, 0) :: (.slice (some ⟨b, o, none⟩) len cp, nx + 1, c, p) :: rest) f' → (mt + 1 ≤ 300 → ∀ x n, f' x n = .none) →
                (Z.alloc ob).grownBy w4 (some g) → w4.ownsRow (w.heap.size + 1 + 1 + 1) 77 4 v' (n + 1 + 1) (fcells ((.slice (some ⟨b, o, none⟩) len cp, nx + 1, c, p) :: rest) ++ [.slice (some ⟨b2, o2, none⟩) pl pc, .int .i64 0, .int .i64 0, .int .i64 0]) → Hid (MInv w w4 C P (mt + 1) (W - 1) v' ((.slice (some ⟨b2, o2, none⟩) pl pc, 0, 0, 0) :: (.slice (some ⟨b, o, none⟩) len cp, nx + 1, c, p) :: rest) f')) := fun Z w4 v' f' ob j1 j2 j3 j4 j5 j6 j7 j8 => by
              have e := HL.out
              subst e
              have h2 := HST.out.2
              have h1 := Stk.push HRD.out hT' hrp' HST.out.1
              rw [show W - 2 * (T' + 1) + 2 * T' + 1 = W - 1 from by omega] at h1
              exact HI.out.push hgz0 j1 (by omega) (j3 _ (by omega)) (j3 _ (by omega)) j4 j5 j7 j8 h1 (by have := HI.out.work; omega) j6 ⟨b2, o2, pl, pc, rfl, hpl0, hp2⟩
            have hmt1 : mt ≤ 3000000000000 := by have := HI.out.work; omega
            have hfour : ∀ j u, ([.slice (some ⟨b2, o2, none⟩) pl pc, .int .i64 0, .int .i64 0, .int .i64 0] : List Value)[j]? = some u → ((w3.alloc (.cells #[.int .i64 0, .int .i64 0] 56)).alloc (.cells #[.slice (some ⟨b2, o2, none⟩) pl pc, .int .i64 0, .int .i64 0, .int .i64 0] 77)).cell? ((⟨w3.heap.size + 1, 0, none⟩ : Addr).add j) = some u := by
              have h := four_new (w3.alloc (.cells #[.int .i64 0, .int .i64 0] 56)) (.slice (some ⟨b2, o2, none⟩) pl pc) (.int .i64 0) (.int .i64 0) (.int .i64 0) 77
              rw [hVz] at h
              exact h
            have HFOUR : Hid (∀ j u, ([.slice (some ⟨b2, o2, none⟩) pl pc, .int .i64 0, .int .i64 0, .int .i64 0] : List Value)[j]? = some u → ((w3.alloc (.cells #[.int .i64 0, .int .i64 0] 56)).alloc (.cells #[.slice (some ⟨b2, o2, none⟩) pl pc, .int .i64 0, .int .i64 0, .int .i64 0] 77)).cell? ((⟨w3.heap.size + 1, 0, none⟩ : Addr).add j) = some u) := hfour
            obtain ⟨i0, hi, hi0, hi1, hi2⟩ := info_parts Try.infoMeasuring
            have HZ : Hid (SMap (w3.alloc (.cells #[.int .i64 0, .int .i64 0] 56)) (w.heap.size + 1 + 1) f) := HI.out.old fun j hj => hT3.block j (by omega) (by omega)
            have HJ : Hid (∀ j, j < w.heap.size + 1 + 1 → (w3.alloc (.cells #[.int .i64 0, .int .i64 0] 56)).heap[j]? = wr.heap[j]?) := fun j hj => hT3.block j (by omega) (by omega)
            have HROW : Hid ((w3.alloc (.cells #[.int .i64 0, .int .i64 0] 56)).ownsRow (w.heap.size + 1 + 1 + 1) 77 4 (.slice (some ⟨g, 0, none⟩) (n + 1) cap) (n + 1) (fcells ((.slice (some ⟨b, o, none⟩) len cp, nx + 1, c, p) :: rest))) := hrow3
            have HBV : Hid (Below w.heap.size w (w3.alloc (.cells #[.int .i64 0, .int .i64 0] 56))) := hb3w
            have HNW : Hid (wr.heap.size ≤ (w3.alloc (.cells #[.int .i64 0, .int .i64 0] 56)).heap.size) := hnw
            have hgz3 : w.heap.size + 1 + 1 + 1 < w3.heap.size := by omega
            have e0 : (w3.alloc (.cells #[.int .i64 0, .int .i64 0] 56)).cell? ⟨w.heap.size + 1, 0, none⟩ = some (.int .i64 9223372036854775807) := by rw [cell_of_row _ _ 0 _ _ _ hen3]; rfl
            have e1 : (w3.alloc (.cells #[.int .i64 0, .int .i64 0] 56)).cell? ⟨w.heap.size + 1, 1, none⟩ = some (.int .i64 9223372036854775807) := by rw [cell_of_row _ _ 1 _ _ _ hen3]; rfl
            have HEN : Hid ((w3.alloc (.cells #[.int .i64 0, .int .i64 0] 56)).cell? ⟨w.heap.size + 1, 0, none⟩ = some (.int .i64 9223372036854775807) ∧ (w3.alloc (.cells #[.int .i64 0, .int .i64 0] 56)).cell? ⟨w.heap.size + 1, 1, none⟩ = some (.int .i64 9223372036854775807)) := ⟨e0, e1⟩
            clear HX HGX HTX t1'' y1'' hbw hbV hT3 hg3 hbX hen3 hb3w hnw hrow3 hfour e0 e1 hVz
            by_cases hmt : mt + 1 ≤ 300
            · have hmt' : decide ((300 : Int) < (mt : Int) + 1) = false := by simp; omega
              have HKK : Hid (KInv w ((.slice (some ⟨b2, o2, none⟩) pl pc, 0, 0, 0) :: (.slice (some ⟨b, o, none⟩) len cp, nx + 1, c, p) :: rest) f) := HI.out.keys.turn.push _
              have HUN : Hid (∀ x n, f x n = .none) := HI.out.unkept (by omega)
              go_wp2_with (first | (at_builtin; refine wpList_append_own_at _ rfl _ _ 78 rfl (w.heap.size + 1 + 1 + 1) 77 i0 (.agg #[.slice none 0 0, .int .i64 0, .int .i64 0, .int .i64 0]) 4 48 Try.underlying78 hi hi0 hi1 hi2 rfl (by decide) _ _ _ rfl (HROW.out.alloc _) ⟨w3.heap.size + 1, 0, none⟩ 1 1 [.slice (some ⟨b2, o2, none⟩) pl pc, .int .i64 0, .int .i64 0, .int .i64 0] rfl rfl (HFOUR.out) (by intro u hu; simp at hu; rcases hu with rfl | rfl <;> rfl) (by unfold maxLen; omega) (by omega) (by simp; omega) ?_; intro v' w4 hown4 hgrow4 _ hat) | go_in)
              have HM4 := HPU.out _ w4 v' f _ HBV.out HNW.out HJ.out HZ.out HKK.out (fun _ => HUN.out) hgrow4 hown4
              clear hown4 hgrow4 hat
              go_wp2_with fail
              go_roundw
              case rel => exact ⟨_, mt + 1, _, f, by go_num, HM4.out⟩
              case measure =>
                have h1 := (HMU.out (.int .i64 (mt + 1 : Nat)) _ _ _ ⟨mt + 1, _, f, rfl, HM4.out⟩).2
                have h2 := HWE.out
                have h3 := HST.out.2
                rw [HL.out] at h2
                have e : ((mt + 1 : Nat) : Int) = (mt : Int) + 1 := by omega
                rw [e] at h1
                omega
            · have hmt' : decide ((300 : Int) < (mt : Int) + 1) = true := by simp; omega
              have hpl1 : pl ≤ 9223372036854775807 := by have := len_cnt ts'; omega
              have HSP : Hid (∀ W : World, Calls Try.prog 59 #[.slice (some ⟨b2, o2, none⟩) pl pc] W fun e w' => e = .returned (.agg #[.pointer (some ⟨b2, o2, none⟩), .int .i64 pl]) ∧ Below W.heap.size W w') := fun W => spotOf_any b2 o2 pl pc W hpl0 hpl1
              have HSM : Hid (∀ V : World, Below (w3.alloc (.cells #[.int .i64 0, .int .i64 0] 56)).heap.size (w3.alloc (.cells #[.int .i64 0, .int .i64 0] 56)) V → SMap V (w.heap.size + 1 + 1) f ∧ Plain V ⟨b2, o2, none⟩) := fun V hV => ⟨HZ.out.kept (hV.block _ (by simp; omega)) (fun x n u _ hx => hx.later hV), hp2.later (HBV.out.trans (hV.mono HBV.out.size))⟩
              have HKK : Hid (∀ v : Value, KInv w ((.slice (some ⟨b2, o2, none⟩) pl pc, 0, 0, 0) :: (.slice (some ⟨b, o, none⟩) len cp, nx + 1, c, p) :: rest) fun y m => if y = ⟨b2, o2, none⟩ ∧ m = (pl : Int) then some v else f y m) := fun v => HI.out.keys.turn.mark hp2
              have HZ6 : Hid (∀ w5 w6 : World, Below (w3.alloc (.cells #[.int .i64 0, .int .i64 0] 56)).heap.size (w3.alloc (.cells #[.int .i64 0, .int .i64 0] 56)) w5 → w5.mapTurned w6 (w.heap.size + 1 + 1) → Below w.heap.size w w6 ∧ wr.heap.size ≤ w6.heap.size ∧ (∀ j, j < w.heap.size + 1 + 1 → w6.heap[j]? = wr.heap[j]?) ∧ w6.ownsRow (w.heap.size + 1 + 1 + 1) 77 4 (.slice (some ⟨g, 0, none⟩) (n + 1) cap) (n + 1) (fcells ((.slice (some ⟨b, o, none⟩) len cp, nx + 1, c, p) :: rest)) ∧ w3.heap.size + 1 ≤ w6.heap.size) := fun w5 w6 hB hM => by
                have hz5 := hB.size
                rw [show (w3.alloc (.cells #[.int .i64 0, .int .i64 0] 56)).heap.size = w3.heap.size + 1 from by simp] at hz5
                have hgr := hM.grown
                have hz6 := hgr.size
                have hnw := HNW.out
                rw [show (w3.alloc (.cells #[.int .i64 0, .int .i64 0] 56)).heap.size = w3.heap.size + 1 from by simp] at hnw
                refine ⟨(HBV.out.trans (hB.mono HBV.out.size)).grown hgr (by omega) (fun k hk => by cases hk; omega), by omega, fun j hj => (hgr.block j (by omega) (by simp; omega)).trans ((hB.block j (by simp; omega)).trans (HJ.out j hj)), rowKept HROW.out fun j hj => ?_, by omega⟩
                obtain rfl : g = j := by simpa [Value.ownBlock] using hj
                exact (hgr.block g (by omega) (by simp; omega)).trans (hB.block g (by simp; omega))
              have e0 := HEN.out.1
              have e1 := HEN.out.2
              go_wp2_with fail
              have HST6 : Hid (∀ w5 : World, Below (w3.alloc (.cells #[.int .i64 0, .int .i64 0] 56)).heap.size (w3.alloc (.cells #[.int .i64 0, .int .i64 0] 56)) w5 → ∃ w6, (Instr.mapUpdate 75 (.map (some (w.heap.size + 1 + 1))) (.agg #[.pointer (some ⟨b2, o2, none⟩), .int .i64 pl]) (.agg #[.int .i64 9223372036854775807, .int .i64 9223372036854775807])).run Try.prog w5 = .ok () w6 ∧ Hid (SMap w6 (w.heap.size + 1 + 1) fun y m => if y = ⟨b2, o2, none⟩ ∧ m = (pl : Int) then some (.agg #[.int .i64 9223372036854775807, .int .i64 9223372036854775807]) else f y m) ∧ Hid (w5.mapTurned w6 (w.heap.size + 1 + 1))) := fun w5 h5 => by
                obtain ⟨w6, r1, r2, r3⟩ := (HSM.out w5 h5).1.store spotTerm Try.underlying75 (n := pl) (HSM.out w5 h5).2 (.agg #[.int .i64 9223372036854775807, .int .i64 9223372036854775807])
                exact ⟨w6, r1, r2, r3⟩
              go_region_with (go_at_call 59; refine (HSP.out _).mono ?_; rintro e w5 ⟨rfl, hb5⟩; have hb5' : Below (w3.alloc (.cells #[.int .i64 0, .int .i64 0] 56)).heap.size (w3.alloc (.cells #[.int .i64 0, .int .i64 0] 56)) w5 := (by first | exact hb5 | exact (Below.refl _ _).drew.trans hb5 | exact (Below.refl _ _).drew.drew.trans hb5); have e0 := cell_later hb5' HEN.out.1; have e1 := cell_later hb5' HEN.out.2; obtain ⟨w6, hrun6, HM6, HT6⟩ := HST6.out w5 hb5')
              all_goals
                obtain ⟨j1, j2, j3, j4, j5⟩ := HZ6.out w5 w6 hb5' HT6.out
                have HB6 : Hid (Below w.heap.size w w6 ∧ wr.heap.size ≤ w6.heap.size ∧ (∀ j, j < w.heap.size + 1 + 1 → w6.heap[j]? = wr.heap[j]?)) := ⟨j1, j2, j3⟩
                have HR6 : Hid (w6.ownsRow (w.heap.size + 1 + 1 + 1) 77 4 (.slice (some ⟨g, 0, none⟩) (n + 1) cap) (n + 1) (fcells ((.slice (some ⟨b, o, none⟩) len cp, nx + 1, c, p) :: rest))) := j4
                clear j1 j2 j3 j4 hb5 hb5' hrun6
                go_wp2_with (first | (at_builtin; refine wpList_append_own_at _ rfl _ _ 78 rfl (w.heap.size + 1 + 1 + 1) 77 i0 (.agg #[.slice none 0 0, .int .i64 0, .int .i64 0, .int .i64 0]) 4 48 Try.underlying78 hi hi0 hi1 hi2 rfl (by decide) _ _ _ rfl (HR6.out.alloc _) ⟨w6.heap.size, 0, none⟩ 1 1 [.slice (some ⟨b2, o2, none⟩) pl pc, .int .i64 0, .int .i64 0, .int .i64 0] rfl rfl (four_new w6 _ _ _ _ _) (by intro u hu; simp at hu; rcases hu with rfl | rfl <;> rfl) (by unfold maxLen; omega) (by omega) (by simp; omega) ?_; intro v' w4 hown4 hgrow4 _ hat) | go_in)
                have HM4 := HPU.out _ w4 v' _ _ HB6.out.1 HB6.out.2.1 HB6.out.2.2 HM6.out (HKK.out _) (fun h => absurd h hmt) hgrow4 hown4
                clear hown4 hgrow4 hat
                go_wp2_with fail
                go_roundw
                case rel => exact ⟨_, mt + 1, _, _, by go_num, HM4.out⟩
                case measure =>
                  have h1 := (HMU.out (.int .i64 (mt + 1 : Nat)) _ _ _ ⟨mt + 1, _, _, rfl, HM4.out⟩).2
                  have h2 := HWE.out
                  have h3 := HST.out.2
                  rw [HL.out] at h2
                  have e : ((mt + 1 : Nat) : Int) = (mt : Int) + 1 := by omega
                  rw [e] at h1
                  omega
    · obtain ⟨d', ts', hrd, hcc, hpp, hst, hwk⟩ := HI.out.stk.pop hlt
      have hlt' : decide ((nx : Int) < (len : Int)) = false := by simp; omega
      have hgz : g < wr.heap.size := by have := HG.out.2.1; exact Nat.lt_of_not_le fun hn => by rw [Array.getElem?_eq_none hn] at this; cases this
      have hgz0 := HG.out.1
      have hcap := HG.out.2.2.1
      have hcb := hst.bd
      have HPOP : Hid (rest = [] → c = C ∧ p = P) := fun e => by
        subst e
        exact ⟨by have := hst.1; omega, by have := hst.2.1; omega⟩
      have HRD : Hid (RdQ d' w (.slice a len cp) ts' ∧ cntL d' ts' = c ∧ depL d' ts' = p) := ⟨hrd, hcc, hpp⟩
      have HWK : Hid (0 < W) := hwk
      have hc1 : c ≤ C := by omega
      have hp1 : p ≤ P := by omega
      clear hrd hcc hpp hst hwk hcb
      go_wp2_with fail
      go_cut [30] (fun v wx => v = .bool false ∧ Below wr.heap.size wr wx)
      case first =>
        go_region_with (fail)
        all_goals
          go_wp2_with fail
          go_meet
          case rel => exact ⟨rfl, by first | exact (Below.refl _ _).drew | exact Below.refl _ _ | exact (Below.refl _ _).drew.drew⟩
      case rest =>
        obtain ⟨rfl, hbc⟩ := hcut
        obtain ⟨w1, hw1⟩ : ∃ w1, w1 = wc := ⟨_, rfl⟩
        subst hw1
        have t0' := cell_later hbc t0
        have t2' := cell_later hbc t2
        have t3' := cell_later hbc t3
        have HB1 : Hid (Below wr.heap.size wr w1) := hbc
        have HB1w : Hid (Below w.heap.size w w1) := HI.out.bel.trans (hbc.mono HI.out.bel.size)
        have hres1 := (hbc.block _ (by omega)).trans HI.out.res
        have r0 : w1.cell? ⟨w.heap.size, 0, none⟩ = some (.int .i64 0) := by rw [cell_of_row w1 _ 0 _ _ _ hres1]; rfl
        have r1 : w1.cell? ⟨w.heap.size, 1, none⟩ = some (.int .i64 0) := by rw [cell_of_row w1 _ 1 _ _ _ hres1]; rfl
        have v0 : w1.frozen? ⟨w.heap.size, 0, none⟩ = false := frozen_of_row w1 _ _ _ _ hres1
        have v1 : w1.frozen? ⟨w.heap.size, 1, none⟩ = false := frozen_of_row w1 _ _ _ _ hres1
        have hcapn : (n : Int) ≤ (cap : Int) := by have := HL.out; omega
        clear t0 t1 t2 t3 y1 hbc
        cases n with
        | zero =>
          have e0 : rest = [] := List.length_eq_zero_iff.1 HL.out
          obtain ⟨rfl, rfl⟩ := HPOP.out e0
          have hS : ∀ (x y : Value), ((w1.setCell ⟨w.heap.size, 0, none⟩ x).setCell ⟨w.heap.size, 1, none⟩ y).heap[w.heap.size]? = some (.cells #[x, y] 56 (0, 0)) := fun x y => heap_setCell_same (w1.setCell ⟨w.heap.size, 0, none⟩ x) w.heap.size 1 _ _ y (heap_setCell_same w1 w.heap.size 0 _ _ x hres1)
          have S0 : Hid (((w1.setCell ⟨w.heap.size, 0, none⟩ (.int .i64 (c : Nat))).setCell ⟨w.heap.size, 1, none⟩ (.int .i64 (p : Nat))).cell? ⟨w.heap.size, 0, none⟩ = some (.int .i64 (c : Nat))) := by show _ = _; rw [cell_of_row _ _ 0 _ _ _ (hS _ _)]; rfl
          have S1 : Hid (((w1.setCell ⟨w.heap.size, 0, none⟩ (.int .i64 (c : Nat))).setCell ⟨w.heap.size, 1, none⟩ (.int .i64 (p : Nat))).cell? ⟨w.heap.size, 1, none⟩ = some (.int .i64 (p : Nat))) := by show _ = _; rw [cell_of_row _ _ 1 _ _ _ (hS _ _)]; rfl
          have HBF : Hid (Below w.heap.size w ((w1.setCell ⟨w.heap.size, 0, none⟩ (.int .i64 (c : Nat))).setCell ⟨w.heap.size, 1, none⟩ (.int .i64 (p : Nat)))) := HB1w.out.trans (((Turned.of_set w1 w.heap.size 0 _).trans (Turned.of_set _ w.heap.size 1 _)).below (Nat.le_refl _) HB1w.out.size)
          clear hS hres1
          go_wp2_with fail
          have s0 := S0.out
          have s1 := S1.out
          refine bodyPost_ret (v := .agg #[.int .i64 (c : Nat), .int .i64 (p : Nat)]) (by first | (simp [results, Try.results38, go_sem, s0, s1]; done) | (simp [results, Try.results38, go_sem, s0, s1]; rfl)) rfl ⟨rfl, HBF.out⟩
        | succ m =>
          obtain ⟨v2, nx2, c2, p2, rest2, rfl⟩ : ∃ v2 nx2 c2 p2 rest2, rest = (v2, nx2, c2, p2) :: rest2 := by
            cases rest with
            | nil => have := HL.out; simp at this
            | cons f r => exact ⟨f.1, f.2.1, f.2.2.1, f.2.2.2, r, rfl⟩
          have HM : Hid (rest2.length = m) := by have := HL.out; simp only [List.length_cons] at this; show _ = _; omega
          have hb2 : c2 ≤ C ∧ p2 ≤ P := by
            obtain ⟨_, _, _, _, _, hs, _⟩ := HI.out.stk.pop hlt
            obtain ⟨T, D, rc, rp, W', _, _, h3, h4, h5, _⟩ := hs
            have := h5.bd
            exact ⟨by omega, by omega⟩
          have HADD : Hid (∀ (V : World) (f' : Addr → Int → Option Value), Below w.heap.size w V → V.heap[g]? = some (.cells cur 77 (0, 0)) → (∀ j, j < w.heap.size + 1 + 1 → V.heap[j]? = wr.heap[j]?) → SMap V (w.heap.size + 1 + 1) f' → KInv w ((v2, nx2, c2, p2) :: rest2) f' → (mt ≤ 300 → ∀ x n, f' x n = .none) →
              Calls Try.prog 58 #[.pointer (some ⟨g, m * 4 + 2, none⟩), .agg #[.int .i64 (c : Nat), .int .i64 (p : Nat)]] V fun e w' => e = .returned (.tuple #[]) ∧ Hid (MInv w w' C P mt (W - 1) (.slice (some ⟨g, 0, none⟩) (m + 1) cap) ((v2, nx2, c2 + (c + 1), max p2 (p + 1)) :: rest2) f')) := fun V f' i1 i2 i3 i4 i5 i6 => by
            have e := HM.out
            subst e
            obtain ⟨g0, g1, g2, g3, g4, g5⟩ := HG.out
            have hrow := row_pop (f := (.slice a len cp, nx, c, p)) (fs := (v2, nx2, c2, p2) :: rest2) g0 i2 g2 g3 g4 g5
            obtain ⟨g', cap', cur', q1, q2, q3, q4, q5, q6, q7, k0, k1, k2, k3⟩ := row_top hrow
            simp only [Value.slice.injEq, Option.some.injEq, Addr.mk.injEq, and_true] at q1
            obtain ⟨rfl, rfl⟩ : g = g' ∧ cap = cap' := ⟨q1.1, q1.2.2⟩
            have e : cur = cur' := by rw [i2] at q3; simpa using q3
            subst e
            refine (add_any g (rest2.length * 4 + 2) cur c2 p2 c p V i2 k2 k3 (by omega) (by omega) (by omega) (by omega)).mono ?_
            rintro e w' ⟨rfl, h1, h2⟩
            exact ⟨rfl, HI.out.pop hlt g0 g2 g3 g4 g5 i1 i2 i3 i4 i5 i6 h2 h1⟩
          have hg1 : w1.heap[g]? = some (.cells cur 77 (0, 0)) := (HB1.out.block g hgz).trans HG.out.2.1
          have HJ1 : Hid (∀ j, j < w.heap.size + 1 + 1 → w1.heap[j]? = wr.heap[j]?) := fun j hj => HB1.out.block j (by omega)
          have HS1 : Hid (SMap w1 (w.heap.size + 1 + 1) f) := HI.out.old fun j hj => HB1.out.block j (by omega)
          have HG1 : Hid (w1.heap[g]? = some (.cells cur 77 (0, 0))) := hg1
          have hmt1 : mt ≤ 3000000000000 := by have := HI.out.work; omega
          have hq1 : (m : Int) < (m : Int) + 1 := by omega
          have hq2 : m < m + 1 := by omega
          have hq3 : (0 : Int) ≤ (m : Int) := by omega
          have HW3 : Hid (IntKind.i64.wrap (m : Int) = (m : Int)) := wrap_m3 m (by omega)
          have HW4 : Hid (wrap64 (m : Int) = (m : Int)) := wrap_m4 m (by omega)
          have HW2 : Hid (IntKind.i64.wrap ((m : Int) + 1 - 1) = (m : Int)) := wrap_m2 m (by omega)
          clear r0 r1 v0 v1 hres1 hg1
          by_cases hmt : mt ≤ 300
          · have hmt' : decide ((300 : Int) < (mt : Int)) = false := by simp; omega
            have HUN : Hid (∀ x n, f x n = .none) := HI.out.unkept hmt
            have HA1 : Hid (∀ V : World, Below w1.heap.size w1 V → Calls Try.prog 58 #[.pointer (some ⟨g, m * 4 + 2, none⟩), .agg #[.int .i64 (c : Nat), .int .i64 (p : Nat)]] V fun e w' => e = .returned (.tuple #[]) ∧ Hid (MInv w w' C P mt (W - 1) (.slice (some ⟨g, 0, none⟩) (m + 1) cap) ((v2, nx2, c2 + (c + 1), max p2 (p + 1)) :: rest2) f)) := fun V hV => HADD.out V f (HB1w.out.trans (hV.mono HB1w.out.size)) ((hV.block g (Nat.lt_of_lt_of_le hgz HB1.out.size)).trans HG1.out) (fun j hj => (hV.block j (by have := HB1.out.size; omega)).trans (HJ1.out j hj)) (HS1.out.kept (hV.block _ (by have := HB1.out.size; omega)) (fun x n u hu => by rw [HUN.out] at hu; cases hu)) (KInv.none HUN.out) (fun _ => HUN.out)
            clear HADD
            go_wp2_with fail
            have hw2 := HW2.out
            have hw3 := HW3.out
            have hw4 := HW4.out
            go_region_with (go_at_call 58; refine (HA1.out _ (by first | exact Below.refl _ _ | exact (Below.refl _ _).drew | exact (Below.refl _ _).drew.drew)).mono ?_; rintro e w4 ⟨rfl, HM4⟩)
            all_goals
              go_wp2_with fail
              go_roundw
              case rel => exact ⟨_, mt, _, _, rfl, HM4.out⟩
              case measure =>
                have h1 := (HMU.out _ _ _ _ ⟨mt, _, _, rfl, HM4.out⟩).2
                have h2 := HWE.out
                have h3 := HWK.out
                rw [HL.out] at h2
                omega
          · have hmt' : decide ((300 : Int) < (mt : Int)) = true := by simp; omega
            obtain ⟨b, o, len2, cp2, e1, hl0, hpl⟩ := HI.out.solid.1
            simp only [Value.slice.injEq] at e1
            obtain ⟨rfl, rfl, rfl⟩ := e1
            have hl1 : len ≤ 9223372036854775807 := by have := HI.out.stk.topLen; omega
            have HSP : Hid (∀ W : World, Calls Try.prog 59 #[.slice (some ⟨b, o, none⟩) len cp] W fun e w' => e = .returned (.agg #[.pointer (some ⟨b, o, none⟩), .int .i64 len]) ∧ Below W.heap.size W w') := fun W => spotOf_any b o len cp W hl0 hl1
            have HST6 : Hid (∀ w5 : World, Below w1.heap.size w1 w5 → ∃ w6, (Instr.mapUpdate 75 (.map (some (w.heap.size + 1 + 1))) (.agg #[.pointer (some ⟨b, o, none⟩), .int .i64 len]) (.agg #[.int .i64 (c : Nat), .int .i64 (p : Nat)])).run Try.prog w5 = .ok () w6 ∧ Hid (SMap w6 (w.heap.size + 1 + 1) fun y k => if y = ⟨b, o, none⟩ ∧ k = (len : Int) then some (.agg #[.int .i64 (c : Nat), .int .i64 (p : Nat)]) else f y k) ∧ Hid (w5.mapTurned w6 (w.heap.size + 1 + 1)) ∧ w6.cell? ⟨g, (m + 1) * 4 + 2, none⟩ = some (.int .i64 (c : Nat)) ∧ w6.cell? ⟨g, (m + 1) * 4 + 3, none⟩ = some (.int .i64 (p : Nat))) := fun w5 h5 => by
              have hS5 : SMap w5 (w.heap.size + 1 + 1) f := HS1.out.kept (h5.block _ (by have := HB1.out.size; omega)) (fun x n u _ hx => hx.later h5)
              obtain ⟨w6, r1, r2, r3⟩ := hS5.store spotTerm Try.underlying75 (n := len) (hpl.later (HB1w.out.trans (h5.mono HB1w.out.size))) (.agg #[.int .i64 (c : Nat), .int .i64 (p : Nat)])
              have hz := HB1.out.size
              have hz5 := h5.size
              have hg6 := (r3.grown.block g (by omega) (by simp; omega)).trans ((h5.block g (by omega)).trans HG1.out)
              obtain ⟨_, _, k2, k3⟩ := HK.out
              rw [HL.out] at k2 k3
              exact ⟨w6, r1, r2, r3, by rw [cell_of_row w6 _ _ _ _ _ hg6]; exact k2, by rw [cell_of_row w6 _ _ _ _ _ hg6]; exact k3⟩
            have HA6 : Hid (∀ w5 w6 V : World, Below w1.heap.size w1 w5 → w5.mapTurned w6 (w.heap.size + 1 + 1) → (SMap w6 (w.heap.size + 1 + 1) fun y k => if y = ⟨b, o, none⟩ ∧ k = (len : Int) then some (.agg #[.int .i64 (c : Nat), .int .i64 (p : Nat)]) else f y k) → Below w6.heap.size w6 V → Calls Try.prog 58 #[.pointer (some ⟨g, m * 4 + 2, none⟩), .agg #[.int .i64 (c : Nat), .int .i64 (p : Nat)]] V fun e w' => e = .returned (.tuple #[]) ∧ Hid (MInv w w' C P mt (W - 1) (.slice (some ⟨g, 0, none⟩) (m + 1) cap) ((v2, nx2, c2 + (c + 1), max p2 (p + 1)) :: rest2) fun y k => if y = ⟨b, o, none⟩ ∧ k = (len : Int) then some (.agg #[.int .i64 (c : Nat), .int .i64 (p : Nat)]) else f y k)) := fun w5 w6 V h5 hM hS hV => by
              have hz := HB1.out.size
              have hz5 := h5.size
              have hgr := hM.grown
              have hz6 := hgr.size
              have hb6 : Below w.heap.size w w6 := (HB1w.out.trans (h5.mono HB1w.out.size)).grown hgr (by omega) (fun k hk => by cases hk; omega)
              have hkk := KInv.pop HI.out.keys hpl HRD.out.1
              rw [HRD.out.2.1, HRD.out.2.2] at hkk
              refine HADD.out V _ (hb6.trans (hV.mono hb6.size)) ((hV.block g (by omega)).trans ((hgr.block g (by omega) (by simp; omega)).trans ((h5.block g (by omega)).trans HG1.out))) (fun j hj => (hV.block j (by omega)).trans ((hgr.block j (by omega) (by simp; omega)).trans ((h5.block j (by omega)).trans (HJ1.out j hj)))) (hS.kept (hV.block _ (by omega)) (fun x n u hu hx => hx.later hV)) hkk (fun h => absurd h hmt)
            clear HADD
            have T0 : Hid (_ = _) := t0'
            have T2 : Hid (_ = _) := t2'
            have T3 : Hid (_ = _) := t3'
            go_wp2_with fail
            go_region_with (go_at_call 59; refine (HSP.out _).mono ?_; rintro e w5 ⟨rfl, hb5⟩; have hb5' : Below w1.heap.size w1 w5 := (by first | exact hb5 | exact (Below.refl _ _).drew.trans hb5 | exact (Below.refl _ _).drew.drew.trans hb5); have t2' := cell_later hb5' T2.out; have t3' := cell_later hb5' T3.out; obtain ⟨w6, hrun6, HM6, HT6, x2, x3⟩ := HST6.out w5 hb5')
            all_goals
              have HA : Hid (∀ V : World, Below w6.heap.size w6 V → Calls Try.prog 58 #[.pointer (some ⟨g, m * 4 + 2, none⟩), .agg #[.int .i64 (c : Nat), .int .i64 (p : Nat)]] V fun e w' => e = .returned (.tuple #[]) ∧ Hid (MInv w w' C P mt (W - 1) (.slice (some ⟨g, 0, none⟩) (m + 1) cap) ((v2, nx2, c2 + (c + 1), max p2 (p + 1)) :: rest2) fun y k => if y = ⟨b, o, none⟩ ∧ k = (len : Int) then some (.agg #[.int .i64 (c : Nat), .int .i64 (p : Nat)]) else f y k)) := fun V hV => HA6.out w5 w6 V hb5' HT6.out HM6.out hV
              clear hb5 hb5' hrun6 t2' t3' HA6 HST6
              go_wp2_with fail
              have hw2 := HW2.out
              have hw3 := HW3.out
              have hw4 := HW4.out
              go_region_with (go_at_call 58; refine (HA.out _ (by first | exact Below.refl _ _ | exact (Below.refl _ _).drew | exact (Below.refl _ _).drew.drew)).mono ?_; rintro e w4 ⟨rfl, HM4⟩)
              all_goals
                go_wp2_with fail
                go_roundw
                case rel => exact ⟨_, mt, _, _, rfl, HM4.out⟩
                case measure =>
                  have h1 := (HMU.out _ _ _ _ ⟨mt, _, _, rfl, HM4.out⟩).2
                  have h2 := HWE.out
                  have h3 := HWK.out
                  rw [HL.out] at h2
                  omega

end Go.Proofs.Ytjdhkhpdhblhbaa
