/- The program's comparison of two terms that are right: how it stands. -/
import Derived.Test.YthjmbbpakidkdaaOh2
import Derived.Test.YthjmbbpakidkdaaOd
import Derived.Test.YthjmbbpakidkdaaAft
namespace Go.Proofs.Ythjmbbpakidkdaa
open Go.RowKit
set_option linter.unusedVariables false

/-- Two lists of right terms, of which some are left: what their order is. -/
def GFr (w : World) (va vb : Value) (nx rc : Nat) (L E : Prop) : Prop := ∃ (d : Nat) (ts us : List (Tm d)), RdL d w va ts ∧ RdL d w vb us ∧ OkL d ts ∧ OkL d us ∧ nx ≤ ts.length ∧ nx ≤ us.length ∧ cntL d (ts.drop nx) = rc ∧ ts.length ≤ 60 ∧ us.length ≤ 60 ∧ (L ↔ ltList (Lt d) (ts.drop nx) (us.drop nx)) ∧ (E ↔ ts.drop nx = us.drop nx)

/-- What is under way, and what the order of all is. -/
def GStk (w : World) (A B C : Nat) (LT EQ : Prop) : List Ofm → Nat → Prop → Prop → Prop
  | [], W, L, E => W = 0 ∧ ¬ L ∧ E
  | (va, vb, nx) :: rest, W, L, E => ∃ (rc W' : Nat) (L1 E1 L2 E2 : Prop), (GFr w va vb nx rc L1 E1 ∨ (va = .slice (some ⟨A, 0, none⟩) 1 1 ∧ vb = .slice (some ⟨B, 0, none⟩) 1 1 ∧ ((nx = 0 ∧ rc = C ∧ (L1 ↔ LT) ∧ (E1 ↔ EQ)) ∨ (nx = 1 ∧ rc = 0 ∧ ¬ L1 ∧ E1)))) ∧ GStk w A B C LT EQ rest W' L2 E2 ∧ W = rc + W' ∧ (L ↔ L1 ∨ (E1 ∧ L2)) ∧ (E ↔ E1 ∧ E2)

/-- The two roots. -/
structure Roots (wr : World) (A B : Nat) (k n : Int) (s : ByteArray) (la : Value) (k2 n2 : Int) (s2 : ByteArray) (lb : Value) : Prop where
  ra : wr.heap[A]? = some (.cells #[.int .i64 k, .int .i64 n, .string s, la] 26 (0, 0))
  rb : wr.heap[B]? = some (.cells #[.int .i64 k2, .int .i64 n2, .string s2, lb] 26 (0, 0))

def RootsOk (w : World) (k n : Int) (s : ByteArray) (la : Value) (k2 n2 : Int) (s2 : ByteArray) (lb : Value) (C : Nat) (LT EQ : Prop) : Prop :=
  ∃ (d : Nat) (ts us : List (Tm d)), RdL d w la ts ∧ RdL d w lb us ∧ Shape k n s ts.length ∧ Shape k2 n2 s2 us.length ∧ OkL d ts ∧ OkL d us ∧ C = 1 + cntL d ts ∧ (LT ↔ Lt (d + 1) (mk k n s ts) (mk k2 n2 s2 us)) ∧ (EQ ↔ mk k n s ts = mk k2 n2 s2 us)

structure GInv (w wr : World) (k n : Int) (s : ByteArray) (la : Value) (k2 n2 : Int) (s2 : ByteArray) (lb : Value) (LT EQ : Prop) (C met W : Nat) (under : Value) (fs : List Ofm) : Prop where
  bel : Below w.heap.size w wr
  lik : wr.heap[w.heap.size + 1 + 1]? = some (.cells #[.int .i64 (met : Nat), .map none, .slice none 0 0] 161 (0, 0))
  rt : Roots wr (w.heap.size + 1 + 1 + 1) (w.heap.size + 1 + 1 + 1 + 1) k n s la k2 n2 s2 lb
  ok : RootsOk w k n s la k2 n2 s2 lb C LT EQ
  stk : GStk w (w.heap.size + 1 + 1 + 1) (w.heap.size + 1 + 1 + 1 + 1) C LT EQ fs W LT EQ
  row : wr.ownsRow (w.heap.size + 1 + 1 + 1 + 1 + 1) 163 3 under fs.length (ocells fs)
  work : met + W ≤ C
  few : fs.length + W ≤ C + 1

/-- What the next of two lists are, and what comes of it. -/
def GNx (w wr : World) (b1 o1 b2 o2 nx : Nat) (LT EQ : Prop) (St : List Ofm → Nat → Prop) (va vb : Value) (rest : List Ofm) (W : Nat) : Prop :=
  ∃ k n s xa xl xc k2 n2 s2 ya yl yc, Four wr b1 (o1 + nx * 4) k n s (.slice xa xl xc) ∧ Four wr b2 (o2 + nx * 4) k2 n2 s2 (.slice ya yl yc) ∧ (k = 1 ∨ k = 2 ∨ k = 3 ∨ k = 4 ∨ k = 5) ∧ xl ≤ 60 ∧ yl ≤ 60 ∧
    (hway k n s xl k2 n2 s2 yl ≠ 0 → ¬ EQ ∧ (LT ↔ hway k n s xl k2 n2 s2 yl < 0)) ∧
    (hway k n s xl k2 n2 s2 yl = 0 → (¬ (k = 4 ∨ k = 5) → xl = 0 ∧ yl = 0) ∧ (0 < xl → ∃ b o, xa = some ⟨b, o, none⟩) ∧ (0 < yl → ∃ b o, ya = some ⟨b, o, none⟩) ∧
      (xl = 0 ∧ yl = 0 → ∃ W', W' < W ∧ St ((va, vb, nx + 1) :: rest) W') ∧ (∃ W', W' < W ∧ St ((.slice xa xl xc, .slice ya yl yc, 0) :: (va, vb, nx + 1) :: rest) W'))

theorem shape_kind3 {k n : Int} {s : ByteArray} {len : Nat} (h : Shape k n s len) : ¬ (k = 4 ∨ k = 5) → len = 0 := (shape_kind2 h).2

/-- Two heads, each in its list. -/
theorem heads_step {w : World} {d : Nat} {t u : Tm (d + 1)} {A B C : Nat} {LT EQ L1 E1 L1' E1' L2 E2 : Prop} {rest : List Ofm} {va vb : Value} {nx rc' W' : Nat} {xa ya : Option Addr} {xc yc : Nat}
    (ht : Shape t.K t.N t.S t.L.length) (hu : Shape u.K u.N u.S u.L.length) (hot : OkL d t.L) (hou : OkL d u.L) (rt : RdL d w (.slice xa t.L.length xc) t.L) (ru : RdL d w (.slice ya u.L.length yc) u.L)
    (hL1 : L1 ↔ (t = u ∧ L1') ∨ (t ≠ u ∧ Lt (d + 1) t u)) (hE1 : E1 ↔ t = u ∧ E1') (hst : GStk w A B C LT EQ rest W' L2 E2) (hLT : LT ↔ L1 ∨ (E1 ∧ L2)) (hEQ : EQ ↔ E1 ∧ E2)
    (hfr : GFr w va vb (nx + 1) rc' L1' E1' ∨ (va = .slice (some ⟨A, 0, none⟩) 1 1 ∧ vb = .slice (some ⟨B, 0, none⟩) 1 1 ∧ nx + 1 = 1 ∧ rc' = 0 ∧ ¬ L1' ∧ E1')) :
    (hway t.K t.N t.S t.L.length u.K u.N u.S u.L.length ≠ 0 → ¬ EQ ∧ (LT ↔ hway t.K t.N t.S t.L.length u.K u.N u.S u.L.length < 0)) ∧
    (hway t.K t.N t.S t.L.length u.K u.N u.S u.L.length = 0 → (¬ (t.K = 4 ∨ t.K = 5) → t.L.length = 0 ∧ u.L.length = 0) ∧
      (t.L.length = 0 ∧ u.L.length = 0 → GStk w A B C LT EQ ((va, vb, nx + 1) :: rest) (rc' + W') LT EQ) ∧ GStk w A B C LT EQ ((.slice xa t.L.length xc, .slice ya u.L.length yc, 0) :: (va, vb, nx + 1) :: rest) (cntL d t.L + (rc' + W')) LT EQ) := by
  obtain ⟨q1, q2⟩ := head_tells ht hu
  have hfr2 : GFr w va vb (nx + 1) rc' L1' E1' ∨ (va = .slice (some ⟨A, 0, none⟩) 1 1 ∧ vb = .slice (some ⟨B, 0, none⟩) 1 1 ∧ ((nx + 1 = 0 ∧ rc' = C ∧ (L1' ↔ LT) ∧ (E1' ↔ EQ)) ∨ (nx + 1 = 1 ∧ rc' = 0 ∧ ¬ L1' ∧ E1'))) := by
    rcases hfr with h | ⟨h1, h2, h3⟩
    · exact .inl h
    · exact .inr ⟨h1, h2, .inr h3⟩
  refine ⟨fun h => ?_, fun h => ?_⟩
  · obtain ⟨hne, hlt⟩ := q1 h
    refine ⟨fun e => hne (hE1.1 (hEQ.1 e).1).1, ?_⟩
    rw [hLT, hL1, hE1, ← hlt]
    simp [hne]
  · obtain ⟨hk, he, hlt⟩ := q2 h
    have hirr : t.L = u.L → ¬ ltList (Lt d) t.L u.L := fun e => by
      rw [← e]
      exact (lin_list (lin_Lt d)).irr _ (okL_mem hot)
    have hS : GStk w A B C LT EQ ((va, vb, nx + 1) :: rest) (rc' + W') (L1' ∨ (E1' ∧ L2)) (E1' ∧ E2) := ⟨rc', W', L1', E1', L2, E2, hfr2, hst, rfl, Iff.rfl, Iff.rfl⟩
    refine ⟨fun hn => ⟨shape_kind3 ht hn, shape_kind3 hu (by rw [← hk]; exact hn)⟩, fun hz => ?_, ?_⟩
    · have hll : t.L = u.L := (List.length_eq_zero_iff.1 hz.1).trans (List.length_eq_zero_iff.1 hz.2).symm
      have htu := he.2 hll
      have e1 : (L1' ∨ (E1' ∧ L2)) = LT := propext (by rw [hLT, hL1, hE1]; simp [htu])
      have e2 : (E1' ∧ E2) = EQ := propext (by rw [hEQ, hE1]; simp [htu])
      rw [e1, e2] at hS
      exact hS
    · refine ⟨cntL d t.L, rc' + W', ltList (Lt d) t.L u.L, t.L = u.L, _, _, .inl ⟨d, t.L, u.L, rt, ru, hot, hou, Nat.zero_le _, Nat.zero_le _, by rw [List.drop_zero], shape_len60 ht, shape_len60 hu, by rw [List.drop_zero, List.drop_zero], by rw [List.drop_zero, List.drop_zero]⟩, hS, rfl, ?_, ?_⟩
      · rw [hLT, hL1, hE1]
        by_cases htu : t.L = u.L
        · have e1 : (t = u) = True := eq_true (he.2 htu)
          have e2 : (t.L = u.L) = True := eq_true htu
          have e3 : ltList (Lt d) t.L u.L = False := eq_false (hirr htu)
          simp only [ne_eq, e1, e2, e3, not_true_eq_false, false_and, or_false, true_and, false_or]
        · have e1 : (t = u) = False := eq_false fun e => htu (he.1 e)
          have e2 : (t.L = u.L) = False := eq_false htu
          have e3 : Lt (d + 1) t u = ltList (Lt d) t.L u.L := propext hlt
          simp only [ne_eq, e1, e2, e3, not_false_eq_true, false_and, or_false, true_and, false_or]
      · rw [hEQ, hE1, he, and_assoc]

theorem GFr.len {w : World} {va vb : Value} {nx rc : Nat} {L E : Prop} (h : GFr w va vb nx rc L E) : ∃ a1 a2 l1 l2 c1 c2, va = .slice a1 l1 c1 ∧ vb = .slice a2 l2 c2 ∧ nx ≤ l1 ∧ nx ≤ l2 ∧ l1 ≤ 60 ∧ l2 ≤ 60 ∧ ((nx = l1 ∨ nx = l2) → (l1 = l2 → rc = 0 ∧ ¬ L ∧ E) ∧ (l1 ≠ l2 → ¬ E ∧ (L ↔ l1 < l2))) := by
  obtain ⟨d, ts, us, h1, h2, h3, h4, h5, h6, h7, h8, h9, h10, h11⟩ := h
  obtain ⟨a1, c1, e1⟩ := h1.len
  obtain ⟨a2, c2, e2⟩ := h2.len
  refine ⟨a1, a2, ts.length, us.length, c1, c2, e1, e2, h5, h6, h8, h9, fun hend => ⟨fun hll => ?_, fun hll => ?_⟩⟩
  · have hx : ts.drop nx = [] := List.drop_of_length_le (by omega)
    have hy : us.drop nx = [] := List.drop_of_length_le (by omega)
    rw [hx, hy] at h10 h11
    rw [hx, cntL_nil] at h7
    exact ⟨h7.symm, fun h => h10.1 h, h11.2 rfl⟩
  · rcases hend with rfl | rfl
    · have hx : ts.drop ts.length = [] := List.drop_of_length_le (Nat.le_refl _)
      rw [hx] at h10 h11
      have hlt : ts.length < us.length := by omega
      rw [List.drop_eq_getElem_cons hlt] at h10 h11
      exact ⟨fun h => (by have := h11.1 h; cases this), ⟨fun _ => hlt, fun _ => h10.2 trivial⟩⟩
    · have hx : us.drop us.length = [] := List.drop_of_length_le (Nat.le_refl _)
      rw [hx] at h10 h11
      have hlt : us.length < ts.length := by omega
      rw [List.drop_eq_getElem_cons hlt] at h10 h11
      exact ⟨fun h => (by have := h11.1 h; cases this), ⟨fun h => absurd (h10.1 h) id, fun h => by omega⟩⟩

/-- The top of what is under way. -/
theorem GInv.top {w wr : World} {k n : Int} {s : ByteArray} {la : Value} {k2 n2 : Int} {s2 : ByteArray} {lb : Value} {LT EQ : Prop} {C met W : Nat} {under : Value} {va vb : Value} {nx : Nat} {rest : List Ofm} (h : GInv w wr k n s la k2 n2 s2 lb LT EQ C met W under ((va, vb, nx) :: rest)) :
    ∃ a1 a2 l1 l2 c1 c2, va = .slice a1 l1 c1 ∧ vb = .slice a2 l2 c2 ∧ nx ≤ l1 ∧ nx ≤ l2 ∧ l1 ≤ 60 ∧ l2 ≤ 60 ∧
      ((nx = l1 ∨ nx = l2) → (l1 = l2 → GStk w (w.heap.size + 1 + 1 + 1) (w.heap.size + 1 + 1 + 1 + 1) C LT EQ rest W LT EQ) ∧ (l1 ≠ l2 → ¬ EQ ∧ (LT ↔ l1 < l2))) ∧
      (nx < l1 → nx < l2 → ∃ b1 o1 b2 o2, a1 = some ⟨b1, o1, none⟩ ∧ a2 = some ⟨b2, o2, none⟩ ∧ GNx w wr b1 o1 b2 o2 nx LT EQ (fun fs W' => GStk w (w.heap.size + 1 + 1 + 1) (w.heap.size + 1 + 1 + 1 + 1) C LT EQ fs W' LT EQ) va vb rest W) := by
  obtain ⟨rc, W', L1, E1, L2, E2, h1, h2, h3, h4, h5⟩ := h.stk
  rcases h1 with h1 | ⟨rfl, rfl, h1⟩
  · obtain ⟨a1, a2, l1, l2, c1, c2, e1, e2, q1, q2, q3, q4, q5⟩ := h1.len
    refine ⟨a1, a2, l1, l2, c1, c2, e1, e2, q1, q2, q3, q4, fun hend => ⟨fun hll => ?_, fun hll => ?_⟩, fun hlt1 hlt2 => ?_⟩
    · obtain ⟨z1, z2, z3⟩ := (q5 hend).1 hll
      have p1 : LT = L2 := propext (by rw [h4]; simp [z2, z3])
      have p2 : EQ = E2 := propext (by rw [h5]; simp [z3])
      have p3 : W' = W := by omega
      subst p3
      have h2' : GStk w (w.heap.size + 1 + 1 + 1) (w.heap.size + 1 + 1 + 1 + 1) C LT EQ rest W' L2 E2 := h2
      rw [← p1, ← p2] at h2'
      exact h2'
    · obtain ⟨z1, z2⟩ := (q5 hend).2 hll
      refine ⟨fun e => z1 (h5.1 e).1, ?_⟩
      rw [h4, z2]
      simp [z1]
    · obtain ⟨d, ts, us, r1, r2, o1, o2, n1, n2', cn, s1, s2', i1, i2⟩ := h1
      obtain ⟨x1, y1, f1⟩ := r1.len
      obtain ⟨x2, y2, f2⟩ := r2.len
      have g1 := r1
      have g2 := r2
      rw [e1] at f1
      rw [e2] at f2
      simp only [Value.slice.injEq] at f1 f2
      cases d with
      | zero => rw [tm0 ts] at f1; simp only [List.length_nil] at f1; omega
      | succ d =>
        obtain ⟨a1', c1', e1', g1⟩ := r1
        obtain ⟨a2', c2', e2', g2⟩ := r2
        rw [e1] at e1'
        rw [e2] at e2'
        simp only [Value.slice.injEq] at e1' e2'
        have lt1 : nx < ts.length := by omega
        have lt2 : nx < us.length := by omega
        obtain ⟨b1, p1, lv1, j1, j2, j3⟩ := g1 nx ts[nx] (List.getElem?_eq_getElem lt1)
        obtain ⟨b2, p2, lv2, m1, m2, m3⟩ := g2 nx us[nx] (List.getElem?_eq_getElem lt2)
        obtain ⟨xa, xc, ex⟩ := j3.len
        obtain ⟨ya, yc, ey⟩ := m3.len
        subst ex ey
        have ok1 := o1 ts[nx] (List.getElem_mem lt1)
        have ok2 := o2 us[nx] (List.getElem_mem lt2)
        have d1 : ts.drop nx = ts[nx] :: ts.drop (nx + 1) := List.drop_eq_getElem_cons lt1
        have d2 : us.drop nx = us[nx] :: us.drop (nx + 1) := List.drop_eq_getElem_cons lt2
        rw [d1, d2] at i1 i2
        rw [d1, cntL_cons] at cn
        have hE : E1 ↔ ts[nx] = us[nx] ∧ ts.drop (nx + 1) = us.drop (nx + 1) := by rw [i2, List.cons.injEq]
        have hst := heads_step (w := w) (A := w.heap.size + 1 + 1 + 1) (B := w.heap.size + 1 + 1 + 1 + 1) (C := C) (va := va) (vb := vb) (nx := nx) (rc' := cntL (d + 1) (ts.drop (nx + 1))) ok1.1 ok2.1 ok1.2 ok2.2 j3 m3 (L1' := ltList (Lt (d + 1)) (ts.drop (nx + 1)) (us.drop (nx + 1))) (E1' := ts.drop (nx + 1) = us.drop (nx + 1)) i1 hE h2 h4 h5 (.inl ⟨d + 1, ts, us, ⟨a1', c1', by rw [e1]; simp only [Value.slice.injEq]; exact e1', g1⟩, ⟨a2', c2', by rw [e2]; simp only [Value.slice.injEq]; exact e2', g2⟩, o1, o2, lt1, lt2, rfl, s1, s2', Iff.rfl, Iff.rfl⟩)
        refine ⟨b1, p1, b2, p2, e1'.1.trans j1, e2'.1.trans m1, _, _, _, xa, _, xc, _, _, _, ya, _, yc, j2.later h.bel, m2.later h.bel, (shape_kind2 ok1.1).1, shape_len60 ok1.1, shape_len60 ok2.1, hst.1, fun hz => ⟨(hst.2 hz).1, fun hp => rdl_some j3 hp, fun hp => rdl_some m3 hp, fun hq => ⟨_, ?_, (hst.2 hz).2.1 hq⟩, ⟨_, ?_, (hst.2 hz).2.2⟩⟩⟩
        · omega
        · omega
  · refine ⟨_, _, 1, 1, 1, 1, rfl, rfl, by omega, by omega, by omega, by omega, fun hend => ⟨fun _ => ?_, fun hll => absurd rfl hll⟩, fun hlt1 hlt2 => ?_⟩
    · obtain ⟨z0, z1, z2, z3⟩ : nx = 1 ∧ rc = 0 ∧ ¬ L1 ∧ E1 := by
        rcases h1 with h1 | h1
        · omega
        · exact h1
      have p1 : LT = L2 := propext (by rw [h4]; simp [z2, z3])
      have p2 : EQ = E2 := propext (by rw [h5]; simp [z3])
      have p3 : W' = W := by omega
      subst p3
      have h2' : GStk w (w.heap.size + 1 + 1 + 1) (w.heap.size + 1 + 1 + 1 + 1) C LT EQ rest W' L2 E2 := h2
      rw [← p1, ← p2] at h2'
      exact h2'
    · obtain ⟨rfl, rfl, z2, z3⟩ : nx = 0 ∧ rc = C ∧ (L1 ↔ LT) ∧ (E1 ↔ EQ) := by
        rcases h1 with h1 | h1
        · exact h1
        · omega
      obtain ⟨d, ts, us, o1, o2, o3, o4, o5, o6, o7, o8, o9⟩ := h.ok
      obtain ⟨xa, xc, ex⟩ := o1.len
      obtain ⟨ya, yc, ey⟩ := o2.len
      have hra := h.rt.ra
      have hrb := h.rt.rb
      subst ex ey
      have hirr : Go.Proofs.Ythjmbbpakidkdaa.mk k n s ts = Go.Proofs.Ythjmbbpakidkdaa.mk k2 n2 s2 us → ¬ Lt (d + 1) (Go.Proofs.Ythjmbbpakidkdaa.mk k n s ts) (Go.Proofs.Ythjmbbpakidkdaa.mk k2 n2 s2 us) := fun e => by rw [← e]; exact (lin_Lt (d + 1)).irr _ ⟨o3, o5⟩
      have hst := heads_step (w := w) (t := Go.Proofs.Ythjmbbpakidkdaa.mk k n s ts) (u := Go.Proofs.Ythjmbbpakidkdaa.mk k2 n2 s2 us) (A := w.heap.size + 1 + 1 + 1) (B := w.heap.size + 1 + 1 + 1 + 1) (C := rc) (LT := LT) (EQ := EQ) (L1 := L1) (E1 := E1) (L2 := L2) (E2 := E2) (va := .slice (some ⟨w.heap.size + 1 + 1 + 1, 0, none⟩) 1 1) (vb := .slice (some ⟨w.heap.size + 1 + 1 + 1 + 1, 0, none⟩) 1 1) (nx := 0) (rc' := 0) (W' := W') (rest := rest) (xa := xa) (ya := ya) (xc := xc) (yc := yc) o3 o4 o5 o6 o1 o2 (L1' := False) (E1' := True)
        (by rw [z2, o8]; by_cases e : Go.Proofs.Ythjmbbpakidkdaa.mk k n s ts = Go.Proofs.Ythjmbbpakidkdaa.mk k2 n2 s2 us; · simp [e]; have := hirr e; rw [e] at this; exact this
            · simp [e]) (by rw [z3, o9]; simp) h2 h4 h5 (.inr ⟨rfl, rfl, rfl, rfl, id, trivial⟩)
      have f1 : Four wr (w.heap.size + 1 + 1 + 1) (0 + 0 * 4) k n s (.slice xa ts.length xc) := by
        have hc := fun j => cell_of_row wr (w.heap.size + 1 + 1 + 1) j _ 26 (0, 0) hra
        exact ⟨by rw [hc]; rfl, by rw [hc]; rfl, by rw [hc]; rfl, by rw [hc]; rfl⟩
      have f2 : Four wr (w.heap.size + 1 + 1 + 1 + 1) (0 + 0 * 4) k2 n2 s2 (.slice ya us.length yc) := by
        have hc := fun j => cell_of_row wr (w.heap.size + 1 + 1 + 1 + 1) j _ 26 (0, 0) hrb
        exact ⟨by rw [hc]; rfl, by rw [hc]; rfl, by rw [hc]; rfl, by rw [hc]; rfl⟩
      have hC : W = 1 + (cntL d ts + W') := by omega
      refine ⟨_, 0, _, 0, rfl, rfl, k, n, s, xa, ts.length, xc, k2, n2, s2, ya, us.length, yc, f1, f2, (shape_kind2 o3).1, shape_len60 o3, shape_len60 o4, hst.1, fun hz => ⟨(hst.2 hz).1, fun hp => rdl_some o1 hp, fun hp => rdl_some o2 hp, fun hq => ⟨0 + W', by omega, (hst.2 hz).2.1 hq⟩, ⟨cntL d ts + (0 + W'), by omega, (hst.2 hz).2.2⟩⟩⟩

/-- The top goes on by one. -/
theorem GInv.turn {w wr V : World} {k n : Int} {s : ByteArray} {la : Value} {k2 n2 : Int} {s2 : ByteArray} {lb : Value} {LT EQ : Prop} {C met R : Nat} {va vb : Value} {nx g cap : Nat} {rest : List Ofm} {cur : Array Value} (h : GInv w wr k n s la k2 n2 s2 lb LT EQ C met R (.slice (some ⟨g, 0, none⟩) (rest.length + 1) cap) ((va, vb, nx) :: rest))
    (HG : w.heap.size + 1 + 1 + 1 + 1 + 1 ≤ g ∧ wr.heap[g]? = some (.cells cur 163 (0, 0)) ∧ rest.length + 1 ≤ cap ∧ cap ≤ maxLen ∧ cur.size = cap * 3 ∧ cur.toList.take ((rest.length + 1) * 3) = ocells ((va, vb, nx) :: rest)) (hT : Turned g wr V)
    (k0 : cur[rest.length * 3]? = some va) (k1 : cur[rest.length * 3 + 1]? = some vb) (h6 : V.heap[g]? = some (.cells (cur.setIfInBounds (rest.length * 3 + 2) (.int .i64 (nx + 1 : Nat))) 163 (0, 0))) :
    Below w.heap.size w V ∧ V.heap[w.heap.size + 1 + 1]? = some (.cells #[.int .i64 (met : Nat), .map none, .slice none 0 0] 161 (0, 0)) ∧ Roots V (w.heap.size + 1 + 1 + 1) (w.heap.size + 1 + 1 + 1 + 1) k n s la k2 n2 s2 lb ∧ V.ownsRow (w.heap.size + 1 + 1 + 1 + 1 + 1) 163 3 (.slice (some ⟨g, 0, none⟩) (rest.length + 1) cap) (rest.length + 1) (ocells ((va, vb, nx + 1) :: rest)) := by
  obtain ⟨g0, g1, g2, g3, g4, g5⟩ := HG
  have hgz := lt_of_row' g1
  have hV : ∀ j, j < w.heap.size + 1 + 1 + 1 + 1 + 1 → V.heap[j]? = wr.heap[j]? := fun j hj => hT.block j (by omega) (by omega)
  refine ⟨h.bel.trans (hT.below (by omega) h.bel.size), (hV _ (by omega)).trans h.lik, ⟨(hV _ (by omega)).trans h.rt.ra, (hV _ (by omega)).trans h.rt.rb⟩, ?_⟩
  refine orow_turn (f' := (va, vb, nx + 1)) g0 g2 g3 g4 g5 h6 (by simp) (fun j hj => by rw [Array.getElem?_setIfInBounds_ne (by omega)]) ?_ ?_ ?_
  · rw [Array.getElem?_setIfInBounds_ne (by omega)]; exact k0
  · rw [Array.getElem?_setIfInBounds_ne (by omega)]; exact k1
  · rw [Array.getElem?_setIfInBounds_self_of_lt (by omega)]

end Go.Proofs.Ythjmbbpakidkdaa
