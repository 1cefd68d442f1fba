/- A walk through a term by a list of what is under way: what it comes to. -/
import Derived.Test.YtbllnmafilabpaaTmM
import Derived.Test.YtbllnmafilabpaaSMapM
namespace Go.Proofs.Ytbllnmafilabpaa
open Go.RowKit
set_option linter.unusedVariables false

/-- A value that is a slice of the terms ts, in memory whose places may be held against each other. -/
def RdQ : (d : Nat) → World → Value → List (Tm d) → Prop
  | 0, _, v, _ => ∃ a c, v = .slice a 0 c
  | d + 1, w, v, ts => ∃ a c, v = .slice a ts.length c ∧ ∀ (i : Nat) (t : Tm (d + 1)), ts[i]? = some t → ∃ b o lv, a = some ⟨b, o, none⟩ ∧ Plain w ⟨b, o, none⟩ ∧ Four w b (o + i * 4) t.K t.N t.S lv ∧ RdQ d w lv t.L

theorem Plain.later {w w' : World} {x : Addr} (h : Plain w x) (hb : Below w.heap.size w w') : Plain w' x := by
  obtain ⟨c, t, h⟩ := h
  exact ⟨c, t, (hb.block _ (Nat.lt_of_not_le fun hn => by rw [Array.getElem?_eq_none hn] at h; cases h)).trans h⟩

theorem Plain.lt {w : World} {x : Addr} (h : Plain w x) : x.block < w.heap.size := by
  obtain ⟨c, t, h⟩ := h
  exact Nat.lt_of_not_le fun hn => by rw [Array.getElem?_eq_none hn] at h; cases h

theorem RdQ.later : ∀ {d : Nat} {w w' : World} {v : Value} {ts : List (Tm d)}, RdQ d w v ts → Below w.heap.size w w' → RdQ d w' v ts := by
  intro d
  induction d with
  | zero => intro w w' v ts h _; exact h
  | succ d ih =>
    intro w w' v ts h hb
    obtain ⟨a, c, rfl, h1⟩ := h
    refine ⟨a, c, rfl, fun i t ht => ?_⟩
    obtain ⟨b, o, lv, h2, h3, h4, h5⟩ := h1 i t ht
    exact ⟨b, o, lv, h2, h3.later hb, h4.later hb, ih h5 hb⟩

theorem RdQ.len {d : Nat} {w : World} {v : Value} {ts : List (Tm d)} (h : RdQ d w v ts) : ∃ a c, v = .slice a ts.length c := by
  cases d with
  | zero =>
    cases ts with
    | nil => exact h
    | cons t _ => exact Empty.elim t
  | succ d =>
    obtain ⟨a, c, e, _⟩ := h
    exact ⟨a, c, e⟩

theorem OwnL.rdq : ∀ {d : Nat} {w : World} {v : Value} {ts : List (Tm d)} {fp : List Nat}, OwnL d w v ts fp → RdQ d w v ts := by
  intro d
  induction d with
  | zero => intro w v ts fp h; exact h.1
  | succ d ih =>
    intro w v ts fp h
    rcases h with ⟨rfl, _, a, c, rfl⟩ | ⟨g, c, cur, fps, h1, h2, h3, rfl, h4⟩
    · exact ⟨a, c, rfl, fun i t ht => by simp at ht⟩
    · refine ⟨_, c, h1, fun i t ht => ?_⟩
      obtain ⟨lv, f, e1, e2, e3, e4, e5, e6⟩ := h4 i t ht
      refine ⟨g, 0, lv, rfl, ⟨_, _, h2⟩, ?_, ih e6⟩
      have hc := fun j => cell_of_row w g j cur 26 (0, 0) h2
      exact ⟨by rw [hc, ← e2, Nat.zero_add], by rw [hc, ← e3, Nat.zero_add], by rw [hc, ← e4, Nat.zero_add], by rw [hc, ← e5, Nat.zero_add]⟩

theorem cntL_nil (d : Nat) : cntL d [] = 0 := by cases d <;> rfl
theorem depL_nil (d : Nat) : depL d [] = 0 := by cases d <;> rfl
theorem cntL_cons (d : Nat) (t : Tm (d + 1)) (ts : List (Tm (d + 1))) : cntL (d + 1) (t :: ts) = 1 + cntL d t.L + cntL (d + 1) ts := rfl
theorem foldl_max_of (l : List Nat) : ∀ a, l.foldl max a = max a (l.foldl max 0) := by
  induction l with
  | nil => intro a; show a = max a 0; omega
  | cons b r ih =>
    intro a
    simp only [List.foldl_cons]
    rw [ih (max a b), ih (max 0 b)]
    omega
theorem depL_cons (d : Nat) (t : Tm (d + 1)) (ts : List (Tm (d + 1))) : depL (d + 1) (t :: ts) = max (1 + depL d t.L) (depL (d + 1) ts) := by
  show ((1 + depL d t.L) :: List.map (fun t : Tm (d + 1) => 1 + depL d t.L) ts).foldl max 0 = max _ ((List.map (fun t : Tm (d + 1) => 1 + depL d t.L) ts).foldl max 0)
  rw [List.foldl_cons, foldl_max_of]
  omega

theorem tm0 (ts : List (Tm 0)) : ts = [] := by
  cases ts with
  | nil => rfl
  | cons t _ => exact Empty.elim t

/-- What lies at one place, of one length, is of one measure. -/
theorem RdQ.same : ∀ {d d' : Nat} {w : World} {a : Option Addr} {n c c' : Nat} {ts : List (Tm d)} {ts' : List (Tm d')}, RdQ d w (.slice a n c) ts → RdQ d' w (.slice a n c') ts' → cntL d ts = cntL d' ts' ∧ depL d ts = depL d' ts' := by
  intro d
  induction d with
  | zero =>
    intro d' w a n c c' ts ts' h h'
    obtain ⟨a1, c1, e⟩ := h
    simp only [Value.slice.injEq] at e
    obtain ⟨a2, c2, e2⟩ := h'.len
    simp only [Value.slice.injEq] at e2
    have : ts' = [] := List.length_eq_zero_iff.1 (e2.2.1.symm.trans e.2.1)
    subst this
    rw [tm0 ts]
    exact ⟨(cntL_nil _).trans (cntL_nil _).symm, (depL_nil _).trans (depL_nil _).symm⟩
  | succ d ih =>
    intro d' w a n c c' ts ts' h h'
    cases d' with
    | zero =>
      obtain ⟨a1, c1, e⟩ := h'
      simp only [Value.slice.injEq] at e
      obtain ⟨a2, c2, e2⟩ := h.len
      simp only [Value.slice.injEq] at e2
      have : ts = [] := List.length_eq_zero_iff.1 (e2.2.1.symm.trans e.2.1)
      subst this
      rw [tm0 ts']
      exact ⟨(cntL_nil _).trans (cntL_nil _).symm, (depL_nil _).trans (depL_nil _).symm⟩
    | succ d' =>
      obtain ⟨a1, c1, e1, h1⟩ := h
      obtain ⟨a2, c2, e2, h2⟩ := h'
      simp only [Value.slice.injEq] at e1 e2
      obtain ⟨rfl, e1, _⟩ := e1
      obtain ⟨rfl, e2, _⟩ := e2
      have hl : ts.length = ts'.length := e1.symm.trans e2
      have hall : ∀ (i : Nat) (t : Tm (d + 1)) (t' : Tm (d' + 1)), ts[i]? = some t → ts'[i]? = some t' → cntL d t.L = cntL d' t'.L ∧ depL d t.L = depL d' t'.L := by
        intro i t t' ht ht'
        obtain ⟨b, o, lv, g1, _, g2, g3⟩ := h1 i t ht
        obtain ⟨b', o', lv', g1', _, g2', g3'⟩ := h2 i t' ht'
        have e3 := g1.symm.trans g1'
        simp only [Option.some.injEq, Addr.mk.injEq, and_true] at e3
        obtain ⟨rfl, rfl⟩ := e3
        have e4 := g2.2.2.2.symm.trans g2'.2.2.2
        simp only [Option.some.injEq] at e4
        subst e4
        obtain ⟨a3, c3, e5⟩ := g3.len
        subst e5
        exact ih g3 g3'
      clear h1 h2 e1 e2
      induction ts generalizing ts' with
      | nil =>
        have : ts' = [] := List.length_eq_zero_iff.1 hl.symm
        subst this
        exact ⟨rfl, rfl⟩
      | cons t r ih2 =>
        cases ts' with
        | nil => simp at hl
        | cons t' r' =>
          have h0 := hall 0 t t' rfl rfl
          have hr := ih2 (ts' := r') (by simpa using hl) (fun i u u' hu hu' => hall (i + 1) u u' (by simpa using hu) (by simpa using hu'))
          rw [cntL_cons, cntL_cons, depL_cons, depL_cons, h0.1, h0.2, hr.1, hr.2]
          exact ⟨rfl, rfl⟩

/-- A list that is under way: how many it has in all and how deep it is, what is left of it. -/
def FrOk (w : World) (T D : Nat) (v : Value) (nx rc rp : Nat) : Prop := ∃ (d : Nat) (ts : List (Tm d)), RdQ d w v ts ∧ nx ≤ ts.length ∧ cntL d ts = T ∧ depL d ts = D ∧ cntL d (ts.drop nx) = rc ∧ depL d (ts.drop nx) = rp

abbrev Frm := Value × Nat × Nat × Nat

/-- The lists under way, the innermost first: what they come to, and how much work that is. -/
def Stk (w : World) (C P : Nat) : List Frm → Nat → Nat → Nat → Nat → Prop
  | [], _, ac, ap, W => ac = C + 1 ∧ ap = P + 1 ∧ W = 0
  | (v, nx, c, p) :: rest, lo, ac, ap, W => ∃ T D rc rp W', FrOk w T D v nx rc rp ∧ lo ≤ T ∧ c + ac + rc = T ∧ max p (max ap rp) = D ∧ Stk w C P rest (T + 1) (T + 1) (D + 1) W' ∧ W = 2 * rc + 1 + W'

theorem Stk.bd {w : World} {C P : Nat} : ∀ {fs : List Frm} {lo ac ap W : Nat}, Stk w C P fs lo ac ap W → ac + fs.length ≤ C + 1 ∧ ap ≤ P + 1
  | [], _, _, _, _, h => ⟨by rw [h.1]; simp, by rw [h.2.1]; omega⟩
  | (v, nx, c, p) :: rest, lo, ac, ap, W, ⟨T, D, rc, rp, W', h1, h2, h3, h4, h5, h6⟩ => by
    have := h5.bd
    simp only [List.length_cons]
    omega

theorem Stk.above {w : World} {C P : Nat} : ∀ {fs : List Frm} {lo ac ap W : Nat}, Stk w C P fs lo ac ap W → ∀ fr ∈ fs, ∃ T D nx rc rp, FrOk w T D fr.1 nx rc rp ∧ lo ≤ T
  | [], _, _, _, _, _, fr, hfr => by cases hfr
  | (v, nx, c, p) :: rest, lo, ac, ap, W, ⟨T, D, rc, rp, W', h1, h2, h3, h4, h5, h6⟩, fr, hfr => by
    rcases List.mem_cons.1 hfr with rfl | hfr
    · exact ⟨T, D, nx, rc, rp, h1, h2⟩
    · obtain ⟨T', D', nx', rc', rp', g1, g2⟩ := h5.above fr hfr
      exact ⟨T', D', nx', rc', rp', g1, by omega⟩

/-- What stands next in a list that is under way. -/
theorem FrOk.next {w : World} {T D nx rc rp len cp : Nat} {a : Option Addr} (h : FrOk w T D (.slice a len cp) nx rc rp) (hlt : nx < len) : ∃ b o k n s lv T' rc' rp', a = some ⟨b, o, none⟩ ∧ Four w b (o + nx * 4) k n s lv ∧
    (∃ (d : Nat) (ts : List (Tm d)), RdQ d w lv ts ∧ cntL d ts = T' ∧ depL d ts = rp') ∧ T' + 1 ≤ T ∧ rc = 1 + T' + rc' ∧ ∃ rq, FrOk w T D (.slice a len cp) (nx + 1) rc' rq ∧ rp = max (1 + rp') rq := by
  obtain ⟨d, ts, h1, h2, h3, h7, h4, h5⟩ := h
  cases d with
  | zero =>
    obtain ⟨a1, c1, e⟩ := h1
    simp only [Value.slice.injEq] at e
    omega
  | succ d =>
    obtain ⟨a1, c1, e1, h6⟩ := h1
    simp only [Value.slice.injEq] at e1
    obtain ⟨rfl, rfl, rfl⟩ := e1
    have hd : ts.drop nx = ts[nx] :: ts.drop (nx + 1) := List.drop_eq_getElem_cons hlt
    obtain ⟨b, o, lv, g1, g2, g3, g4⟩ := h6 nx ts[nx] (List.getElem?_eq_getElem hlt)
    have hle : cntL (d + 1) (ts.drop nx) ≤ cntL (d + 1) ts := by
      show (List.map _ _).sum ≤ (List.map _ _).sum
      conv => rhs; rw [← List.take_append_drop nx ts]
      rw [List.map_append, List.sum_append]
      omega
    rw [hd, cntL_cons] at h4 hle
    rw [hd, depL_cons] at h5
    exact ⟨b, o, _, _, _, lv, _, cntL (d + 1) (ts.drop (nx + 1)), _, g1, g3, ⟨d, _, g4, rfl, rfl⟩, by omega, by omega, depL (d + 1) (ts.drop (nx + 1)), ⟨d + 1, ts, ⟨a, cp, rfl, h6⟩, hlt, h3, h7, rfl, rfl⟩, h5.symm⟩

theorem FrOk.done {w : World} {T D nx rc rp len cp : Nat} {a : Option Addr} (h : FrOk w T D (.slice a len cp) nx rc rp) (hlt : ¬ nx < len) : rc = 0 ∧ rp = 0 ∧ nx = len := by
  obtain ⟨d, ts, h1, h2, h3, h7, h4, h5⟩ := h
  obtain ⟨a1, c1, e⟩ := h1.len
  simp only [Value.slice.injEq] at e
  have : ts.drop nx = [] := List.drop_eq_nil_of_le (by omega)
  rw [this] at h4 h5
  exact ⟨h4.symm.trans (cntL_nil _), h5.symm.trans (depL_nil _), by omega⟩

theorem FrOk.slice {w : World} {T D nx rc rp : Nat} {v : Value} (h : FrOk w T D v nx rc rp) : ∃ a len cp, v = .slice a len cp ∧ nx ≤ len := by
  obtain ⟨d, ts, h1, h2, _⟩ := h
  obtain ⟨a1, c1, e⟩ := h1.len
  exact ⟨a1, _, c1, e, h2⟩

/-- What the walk has kept: of each list that it holds the measure, or the list is under way. -/
def KInv (w : World) (fs : List Frm) (f : Addr → Int → Option Value) : Prop :=
  ∀ x n v, f x n = some v → Plain w x ∧ ((∃ (d : Nat) (ts : List (Tm d)) (nn cp : Nat), n = (nn : Int) ∧ RdQ d w (.slice (some x) nn cp) ts ∧ v = .agg #[.int .i64 (cntL d ts : Nat), .int .i64 (depL d ts : Nat)]) ∨
    ∃ fr ∈ fs, ∃ (nn cp : Nat), n = (nn : Int) ∧ fr.1 = .slice (some x) nn cp)

/-- What is found of a list that is not under way is its measure. -/
theorem KInv.hit {w : World} {fs : List Frm} {f : Addr → Int → Option Value} {C P lo ac ap W : Nat} (h : KInv w fs f) (hs : Stk w C P fs lo ac ap W) {d : Nat} {ts : List (Tm d)} {x : Addr} {nn cp : Nat} (hr : RdQ d w (.slice (some x) nn cp) ts) (hlo : cntL d ts < lo) {v : Value} (hv : f x nn = some v) :
    v = .agg #[.int .i64 (cntL d ts : Nat), .int .i64 (depL d ts : Nat)] := by
  rcases (h x nn v hv).2 with ⟨d', ts', n', cp', e, hr', rfl⟩ | ⟨fr, hfr, n', cp', e, hfv⟩
  · obtain rfl : nn = n' := by omega
    obtain ⟨e1, e2⟩ := hr.same hr'
    rw [e1, e2]
  · obtain rfl : nn = n' := by omega
    obtain ⟨T, D, nx, rc, rp, ⟨d', ts', g1, g2, g3, _⟩, g4⟩ := hs.above fr hfr
    rw [hfv] at g1
    obtain ⟨e1, _⟩ := hr.same g1
    omega

/-- What is kept when a list comes on top. -/
theorem KInv.push {w : World} {fs : List Frm} {f : Addr → Int → Option Value} (h : KInv w fs f) (fr : Frm) : KInv w (fr :: fs) f := fun x n v hv => by
  obtain ⟨h1, h2⟩ := h x n v hv
  refine ⟨h1, ?_⟩
  rcases h2 with h2 | ⟨fr', h3, h4⟩
  · exact .inl h2
  · exact .inr ⟨fr', List.mem_cons_of_mem _ h3, h4⟩

/-- What is kept when the top's numbers turn. -/
theorem KInv.turn {w : World} {fs : List Frm} {f : Addr → Int → Option Value} {v : Value} {nx c p nx' c' p' : Nat} (h : KInv w ((v, nx, c, p) :: fs) f) : KInv w ((v, nx', c', p') :: fs) f := fun x n u hv => by
  obtain ⟨h1, h2⟩ := h x n u hv
  refine ⟨h1, ?_⟩
  rcases h2 with h2 | ⟨fr', h3, h4⟩
  · exact .inl h2
  · rcases List.mem_cons.1 h3 with rfl | h3
    · exact .inr ⟨_, List.mem_cons_self .., h4⟩
    · exact .inr ⟨fr', List.mem_cons_of_mem _ h3, h4⟩

/-- A mark is laid for a list that comes on top. -/
theorem KInv.mark {w : World} {fs : List Frm} {f : Addr → Int → Option Value} {x : Addr} {nn cp : Nat} {v : Value} (h : KInv w fs f) (hx : Plain w x) : KInv w ((.slice (some x) nn cp, 0, 0, 0) :: fs) fun y m => if y = x ∧ m = (nn : Int) then some v else f y m := fun y m u hu => by
  by_cases e : y = x ∧ m = (nn : Int)
  · exact ⟨by rw [e.1]; exact hx, .inr ⟨_, List.mem_cons_self .., nn, cp, e.2, by rw [e.1]⟩⟩
  · simp only [if_neg e] at hu
    exact h.push _ y m u hu

/-- The top goes, and what it came to is kept. -/
theorem KInv.pop {w : World} {fs : List Frm} {f : Addr → Int → Option Value} {x : Addr} {nn cp nx c p : Nat} (h : KInv w ((.slice (some x) nn cp, nx, c, p) :: fs) f) (hx : Plain w x) {d : Nat} {ts : List (Tm d)} (hr : RdQ d w (.slice (some x) nn cp) ts) :
    KInv w fs fun y m => if y = x ∧ m = (nn : Int) then some (.agg #[.int .i64 (cntL d ts : Nat), .int .i64 (depL d ts : Nat)]) else f y m := fun y m u hu => by
  by_cases e : y = x ∧ m = (nn : Int)
  · simp only [if_pos e, Option.some.injEq] at hu
    exact ⟨by rw [e.1]; exact hx, .inl ⟨d, ts, nn, cp, e.2, by rw [e.1]; exact hr, hu.symm⟩⟩
  · simp only [if_neg e] at hu
    obtain ⟨h1, h2⟩ := h y m u hu
    refine ⟨h1, ?_⟩
    rcases h2 with h2 | ⟨fr', h3, n', cp', h4, h5⟩
    · exact .inl h2
    · rcases List.mem_cons.1 h3 with rfl | h3
      · simp only [Value.slice.injEq, Option.some.injEq] at h5
        exact absurd ⟨h5.1.symm, by rw [h4, h5.2.1]⟩ e
      · exact .inr ⟨fr', h3, n', cp', h4, h5⟩

/-- The top goes, and nothing was kept yet. -/
theorem KInv.none {w : World} {fs : List Frm} {f : Addr → Int → Option Value} (h : ∀ x n, f x n = none) : KInv w fs f := fun x n v hv => by rw [h] at hv; cases hv

/-- The top of what is under way: what is next in it, and how it stands behind that. -/
theorem Stk.step {w : World} {C P W nx c p len cp : Nat} {a : Option Addr} {rest : List Frm} (h : Stk w C P ((.slice a len cp, nx, c, p) :: rest) 0 0 0 W) (hlt : nx < len) :
    ∃ b o k n s lv T' rp', a = some ⟨b, o, none⟩ ∧ Four w b (o + nx * 4) k n s lv ∧ (∃ (d : Nat) (ts : List (Tm d)), RdQ d w lv ts ∧ cntL d ts = T' ∧ depL d ts = rp') ∧ rp' ≤ P ∧ p ≤ P ∧ c + T' + 1 ≤ C ∧
      Stk w C P ((.slice a len cp, nx + 1, c, p) :: rest) (T' + 1) (T' + 1) (rp' + 1) (W - 2 * (T' + 1)) ∧ 2 * (T' + 1) < W := by
  obtain ⟨T, D, rc, rp, W', h1, h2, h3, h4, h5, h6⟩ := h
  obtain ⟨b, o, k, n, s, lv, T', rc', rp', g1, g2, g3, g4, g5, rq, g6, g7⟩ := h1.next hlt
  have hb := h5.bd
  exact ⟨b, o, k, n, s, lv, T', rp', g1, g2, g3, by omega, by omega, by omega, ⟨T, D, rc', rq, W', g6, g4, by omega, by omega, h5, by omega⟩, by omega⟩

/-- What comes of a list is put to the one around it. -/
theorem Stk.take {w : World} {C P W nx c p lo ac ap : Nat} {v : Value} {rest : List Frm} (h : Stk w C P ((v, nx, c, p) :: rest) lo ac ap W) : Stk w C P ((v, nx, c + ac, max p ap) :: rest) 0 0 0 W := by
  obtain ⟨T, D, rc, rp, W', h1, h2, h3, h4, h5, h6⟩ := h
  exact ⟨T, D, rc, rp, W', h1, Nat.zero_le _, by omega, by omega, h5, h6⟩

/-- A list is put on top of what is under way. -/
theorem Stk.push {w : World} {C P W T' rp' : Nat} {lv : Value} {fs : List Frm} {d : Nat} {ts : List (Tm d)} (hr : RdQ d w lv ts) (hT : cntL d ts = T') (hp : depL d ts = rp') (h : Stk w C P fs (T' + 1) (T' + 1) (rp' + 1) W) :
    Stk w C P ((lv, 0, 0, 0) :: fs) 0 0 0 (W + 2 * T' + 1) :=
  ⟨T', rp', T', rp', W, ⟨d, ts, hr, Nat.zero_le _, hT, hp, by rw [List.drop_zero]; exact hT, by rw [List.drop_zero]; exact hp⟩, Nat.zero_le _, by omega, by omega, h, by omega⟩

/-- A list that is through goes. -/
theorem Stk.pop {w : World} {C P W nx c p len cp : Nat} {a : Option Addr} {rest : List Frm} (h : Stk w C P ((.slice a len cp, nx, c, p) :: rest) 0 0 0 W) (hlt : ¬ nx < len) :
    ∃ (d : Nat) (ts : List (Tm d)), RdQ d w (.slice a len cp) ts ∧ cntL d ts = c ∧ depL d ts = p ∧ Stk w C P rest (c + 1) (c + 1) (p + 1) (W - 1) ∧ 0 < W := by
  obtain ⟨T, D, rc, rp, W', h1, h2, h3, h4, h5, h6⟩ := h
  obtain ⟨rfl, rfl, _⟩ := h1.done hlt
  obtain ⟨d, ts, g1, g2, g3, g4, _⟩ := h1
  have e1 : T = c := by omega
  have e2 : D = p := by omega
  subst e1 e2
  exact ⟨d, ts, g1, g3, g4, by rw [show W - 1 = W' from by omega]; exact h5, by omega⟩

theorem Stk.start {d : Nat} {w : World} {v : Value} {ts : List (Tm d)} (hr : RdQ d w v ts) : Stk w (cntL d ts) (depL d ts) [(v, 0, 0, 0)] 0 0 0 (2 * cntL d ts + 1) :=
  Stk.push (W := 0) (fs := []) hr rfl rfl ⟨rfl, rfl, rfl⟩ |> fun h => by simpa using h

end Go.Proofs.Ytbllnmafilabpaa
