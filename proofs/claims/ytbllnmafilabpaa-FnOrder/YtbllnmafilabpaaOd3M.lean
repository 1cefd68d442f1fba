/- The program's comparison of two terms that are right: how it stands. -/
import Derived.Test.YtbllnmafilabpaaOrdM
import Derived.Test.YtbllnmafilabpaaOdM
import Derived.Test.YtbllnmafilabpaaLookM
import Derived.Deep.DeepCutAuto
import Derived.Deep.CutRange
import Derived.BigQuiet
namespace Go.Proofs.Ytbllnmafilabpaa
open Go.RowKit
set_option linter.unusedVariables false

/-- Two lists of right terms, of which some are left: what their order is. -/
def GFr (w : World) (va vb : Value) (nx rc : Nat) (L E : Prop) : Prop := ∃ (d : Nat) (ts us : List (Tm d)), RdL d w va ts ∧ RdL d w vb us ∧ OkL d ts ∧ OkL d us ∧ nx ≤ ts.length ∧ nx ≤ us.length ∧ cntL d (ts.drop nx) = rc ∧ ts.length ≤ 60 ∧ us.length ≤ 60 ∧ (L ↔ ltList (Lt d) (ts.drop nx) (us.drop nx)) ∧ (E ↔ ts.drop nx = us.drop nx)

/-- What is under way, and what the order of all is. -/
def GStk (w : World) (A B C : Nat) (LT EQ : Prop) : List Ofm → Nat → Prop → Prop → Prop
  | [], W, L, E => W = 0 ∧ ¬ L ∧ E
  | (va, vb, nx) :: rest, W, L, E => ∃ (rc W' : Nat) (L1 E1 L2 E2 : Prop), (GFr w va vb nx rc L1 E1 ∨ (va = .slice (some ⟨A, 0, none⟩) 1 1 ∧ vb = .slice (some ⟨B, 0, none⟩) 1 1 ∧ ((nx = 0 ∧ rc = C ∧ (L1 ↔ LT) ∧ (E1 ↔ EQ)) ∨ (nx = 1 ∧ rc = 0 ∧ ¬ L1 ∧ E1)))) ∧ GStk w A B C LT EQ rest W' L2 E2 ∧ W = rc + W' ∧ (L ↔ L1 ∨ (E1 ∧ L2)) ∧ (E ↔ E1 ∧ E2)

/-- The two roots. -/
structure Roots (wr : World) (A B : Nat) (k n : Int) (s : ByteArray) (la : Value) (k2 n2 : Int) (s2 : ByteArray) (lb : Value) : Prop where
  ra : wr.heap[A]? = some (.cells #[.int .i64 k, .int .i64 n, .string s, la] 26 (0, 0))
  rb : wr.heap[B]? = some (.cells #[.int .i64 k2, .int .i64 n2, .string s2, lb] 26 (0, 0))

def RootsOk (w : World) (k n : Int) (s : ByteArray) (la : Value) (k2 n2 : Int) (s2 : ByteArray) (lb : Value) (C : Nat) (LT EQ : Prop) : Prop :=
  ∃ (d : Nat) (ts us : List (Tm d)), RdL d w la ts ∧ RdL d w lb us ∧ Shape k n s ts.length ∧ Shape k2 n2 s2 us.length ∧ OkL d ts ∧ OkL d us ∧ C = 1 + cntL d ts ∧ (LT ↔ Lt (d + 1) (mk k n s ts) (mk k2 n2 s2 us)) ∧ (EQ ↔ mk k n s ts = mk k2 n2 s2 us)

structure GInv (w wr : World) (k n : Int) (s : ByteArray) (la : Value) (k2 n2 : Int) (s2 : ByteArray) (lb : Value) (LT EQ : Prop) (C met W : Nat) (under : Value) (fs : List Ofm) : Prop where
  bel : Below w.heap.size w wr
  lik : wr.heap[w.heap.size + 1 + 1]? = some (.cells #[.int .i64 (met : Nat), .map none, .slice none 0 0] 72 (0, 0))
  rt : Roots wr (w.heap.size + 1 + 1 + 1) (w.heap.size + 1 + 1 + 1 + 1) k n s la k2 n2 s2 lb
  ok : RootsOk w k n s la k2 n2 s2 lb C LT EQ
  stk : GStk w (w.heap.size + 1 + 1 + 1) (w.heap.size + 1 + 1 + 1 + 1) C LT EQ fs W LT EQ
  row : wr.ownsRow (w.heap.size + 1 + 1 + 1 + 1 + 1) 74 3 under fs.length (ocells fs)
  work : met + W ≤ C
  few : fs.length + W ≤ C + 1

/-- What the next of two lists are, and what comes of it. -/
def GNx (w wr : World) (b1 o1 b2 o2 nx : Nat) (LT EQ : Prop) (St : List Ofm → Nat → Prop) (va vb : Value) (rest : List Ofm) (W : Nat) : Prop :=
  ∃ k n s xa xl xc k2 n2 s2 ya yl yc, Four wr b1 (o1 + nx * 4) k n s (.slice xa xl xc) ∧ Four wr b2 (o2 + nx * 4) k2 n2 s2 (.slice ya yl yc) ∧ (k = 1 ∨ k = 2 ∨ k = 3 ∨ k = 4 ∨ k = 5) ∧ xl ≤ 60 ∧ yl ≤ 60 ∧
    (hway k n s xl k2 n2 s2 yl ≠ 0 → ¬ EQ ∧ (LT ↔ hway k n s xl k2 n2 s2 yl < 0)) ∧
    (hway k n s xl k2 n2 s2 yl = 0 → (¬ (k = 4 ∨ k = 5) → xl = 0 ∧ yl = 0) ∧ (0 < xl → ∃ b o, xa = some ⟨b, o, none⟩) ∧ (0 < yl → ∃ b o, ya = some ⟨b, o, none⟩) ∧
      (xl = 0 ∧ yl = 0 → ∃ W', W' < W ∧ St ((va, vb, nx + 1) :: rest) W') ∧ (∃ W', W' < W ∧ St ((.slice xa xl xc, .slice ya yl yc, 0) :: (va, vb, nx + 1) :: rest) W'))

theorem shape_kind3 {k n : Int} {s : ByteArray} {len : Nat} (h : Shape k n s len) : ¬ (k = 4 ∨ k = 5) → len = 0 := (shape_kind2 h).2

/-- Two heads, each in its list. -/
theorem heads_step {w : World} {d : Nat} {t u : Tm (d + 1)} {A B C : Nat} {LT EQ L1 E1 L1' E1' L2 E2 : Prop} {rest : List Ofm} {va vb : Value} {nx rc' W' : Nat} {xa ya : Option Addr} {xc yc : Nat}
    (ht : Shape t.K t.N t.S t.L.length) (hu : Shape u.K u.N u.S u.L.length) (hot : OkL d t.L) (hou : OkL d u.L) (rt : RdL d w (.slice xa t.L.length xc) t.L) (ru : RdL d w (.slice ya u.L.length yc) u.L)
    (hL1 : L1 ↔ (t = u ∧ L1') ∨ (t ≠ u ∧ Lt (d + 1) t u)) (hE1 : E1 ↔ t = u ∧ E1') (hst : GStk w A B C LT EQ rest W' L2 E2) (hLT : LT ↔ L1 ∨ (E1 ∧ L2)) (hEQ : EQ ↔ E1 ∧ E2)
    (hfr : GFr w va vb (nx + 1) rc' L1' E1' ∨ (va = .slice (some ⟨A, 0, none⟩) 1 1 ∧ vb = .slice (some ⟨B, 0, none⟩) 1 1 ∧ nx + 1 = 1 ∧ rc' = 0 ∧ ¬ L1' ∧ E1')) :
    (hway t.K t.N t.S t.L.length u.K u.N u.S u.L.length ≠ 0 → ¬ EQ ∧ (LT ↔ hway t.K t.N t.S t.L.length u.K u.N u.S u.L.length < 0)) ∧
    (hway t.K t.N t.S t.L.length u.K u.N u.S u.L.length = 0 → (¬ (t.K = 4 ∨ t.K = 5) → t.L.length = 0 ∧ u.L.length = 0) ∧
      (t.L.length = 0 ∧ u.L.length = 0 → GStk w A B C LT EQ ((va, vb, nx + 1) :: rest) (rc' + W') LT EQ) ∧ GStk w A B C LT EQ ((.slice xa t.L.length xc, .slice ya u.L.length yc, 0) :: (va, vb, nx + 1) :: rest) (cntL d t.L + (rc' + W')) LT EQ) := by
  obtain ⟨q1, q2⟩ := head_tells ht hu
  have hfr2 : GFr w va vb (nx + 1) rc' L1' E1' ∨ (va = .slice (some ⟨A, 0, none⟩) 1 1 ∧ vb = .slice (some ⟨B, 0, none⟩) 1 1 ∧ ((nx + 1 = 0 ∧ rc' = C ∧ (L1' ↔ LT) ∧ (E1' ↔ EQ)) ∨ (nx + 1 = 1 ∧ rc' = 0 ∧ ¬ L1' ∧ E1'))) := by
    rcases hfr with h | ⟨h1, h2, h3⟩
    · exact .inl h
    · exact .inr ⟨h1, h2, .inr h3⟩
  refine ⟨fun h => ?_, fun h => ?_⟩
  · obtain ⟨hne, hlt⟩ := q1 h
    refine ⟨fun e => hne (hE1.1 (hEQ.1 e).1).1, ?_⟩
    rw [hLT, hL1, hE1, ← hlt]
    simp [hne]
  · obtain ⟨hk, he, hlt⟩ := q2 h
    have hirr : t.L = u.L → ¬ ltList (Lt d) t.L u.L := fun e => by
      rw [← e]
      exact (lin_list (lin_Lt d)).irr _ (okL_mem hot)
    have hS : GStk w A B C LT EQ ((va, vb, nx + 1) :: rest) (rc' + W') (L1' ∨ (E1' ∧ L2)) (E1' ∧ E2) := ⟨rc', W', L1', E1', L2, E2, hfr2, hst, rfl, Iff.rfl, Iff.rfl⟩
    refine ⟨fun hn => ⟨shape_kind3 ht hn, shape_kind3 hu (by rw [← hk]; exact hn)⟩, fun hz => ?_, ?_⟩
    · have hll : t.L = u.L := (List.length_eq_zero_iff.1 hz.1).trans (List.length_eq_zero_iff.1 hz.2).symm
      have htu := he.2 hll
      have e1 : (L1' ∨ (E1' ∧ L2)) = LT := propext (by rw [hLT, hL1, hE1]; simp [htu])
      have e2 : (E1' ∧ E2) = EQ := propext (by rw [hEQ, hE1]; simp [htu])
      rw [e1, e2] at hS
      exact hS
    · refine ⟨cntL d t.L, rc' + W', ltList (Lt d) t.L u.L, t.L = u.L, _, _, .inl ⟨d, t.L, u.L, rt, ru, hot, hou, Nat.zero_le _, Nat.zero_le _, by rw [List.drop_zero], shape_len60 ht, shape_len60 hu, by rw [List.drop_zero, List.drop_zero], by rw [List.drop_zero, List.drop_zero]⟩, hS, rfl, ?_, ?_⟩
      · rw [hLT, hL1, hE1]
        by_cases htu : t.L = u.L
        · have e1 : (t = u) = True := eq_true (he.2 htu)
          have e2 : (t.L = u.L) = True := eq_true htu
          have e3 : ltList (Lt d) t.L u.L = False := eq_false (hirr htu)
          simp only [ne_eq, e1, e2, e3, not_true_eq_false, false_and, or_false, true_and, false_or]
        · have e1 : (t = u) = False := eq_false fun e => htu (he.1 e)
          have e2 : (t.L = u.L) = False := eq_false htu
          have e3 : Lt (d + 1) t u = ltList (Lt d) t.L u.L := propext hlt
          simp only [ne_eq, e1, e2, e3, not_false_eq_true, false_and, or_false, true_and, false_or]
      · rw [hEQ, hE1, he, and_assoc]

theorem GFr.len {w : World} {va vb : Value} {nx rc : Nat} {L E : Prop} (h : GFr w va vb nx rc L E) : ∃ a1 a2 l1 l2 c1 c2, va = .slice a1 l1 c1 ∧ vb = .slice a2 l2 c2 ∧ nx ≤ l1 ∧ nx ≤ l2 ∧ l1 ≤ 60 ∧ l2 ≤ 60 ∧ ((nx = l1 ∨ nx = l2) → (l1 = l2 → rc = 0 ∧ ¬ L ∧ E) ∧ (l1 ≠ l2 → ¬ E ∧ (L ↔ l1 < l2))) := by
  obtain ⟨d, ts, us, h1, h2, h3, h4, h5, h6, h7, h8, h9, h10, h11⟩ := h
  obtain ⟨a1, c1, e1⟩ := h1.len
  obtain ⟨a2, c2, e2⟩ := h2.len
  refine ⟨a1, a2, ts.length, us.length, c1, c2, e1, e2, h5, h6, h8, h9, fun hend => ⟨fun hll => ?_, fun hll => ?_⟩⟩
  · have hx : ts.drop nx = [] := List.drop_of_length_le (by omega)
    have hy : us.drop nx = [] := List.drop_of_length_le (by omega)
    rw [hx, hy] at h10 h11
    rw [hx, cntL_nil] at h7
    exact ⟨h7.symm, fun h => h10.1 h, h11.2 rfl⟩
  · rcases hend with rfl | rfl
    · have hx : ts.drop ts.length = [] := List.drop_of_length_le (Nat.le_refl _)
      rw [hx] at h10 h11
      have hlt : ts.length < us.length := by omega
      rw [List.drop_eq_getElem_cons hlt] at h10 h11
      exact ⟨fun h => (by have := h11.1 h; cases this), ⟨fun _ => hlt, fun _ => h10.2 trivial⟩⟩
    · have hx : us.drop us.length = [] := List.drop_of_length_le (Nat.le_refl _)
      rw [hx] at h10 h11
      have hlt : us.length < ts.length := by omega
      rw [List.drop_eq_getElem_cons hlt] at h10 h11
      exact ⟨fun h => (by have := h11.1 h; cases this), ⟨fun h => absurd (h10.1 h) id, fun h => by omega⟩⟩

/-- The top of what is under way. -/
theorem GInv.top {w wr : World} {k n : Int} {s : ByteArray} {la : Value} {k2 n2 : Int} {s2 : ByteArray} {lb : Value} {LT EQ : Prop} {C met W : Nat} {under : Value} {va vb : Value} {nx : Nat} {rest : List Ofm} (h : GInv w wr k n s la k2 n2 s2 lb LT EQ C met W under ((va, vb, nx) :: rest)) :
    ∃ a1 a2 l1 l2 c1 c2, va = .slice a1 l1 c1 ∧ vb = .slice a2 l2 c2 ∧ nx ≤ l1 ∧ nx ≤ l2 ∧ l1 ≤ 60 ∧ l2 ≤ 60 ∧
      ((nx = l1 ∨ nx = l2) → (l1 = l2 → GStk w (w.heap.size + 1 + 1 + 1) (w.heap.size + 1 + 1 + 1 + 1) C LT EQ rest W LT EQ) ∧ (l1 ≠ l2 → ¬ EQ ∧ (LT ↔ l1 < l2))) ∧
      (nx < l1 → nx < l2 → ∃ b1 o1 b2 o2, a1 = some ⟨b1, o1, none⟩ ∧ a2 = some ⟨b2, o2, none⟩ ∧ GNx w wr b1 o1 b2 o2 nx LT EQ (fun fs W' => GStk w (w.heap.size + 1 + 1 + 1) (w.heap.size + 1 + 1 + 1 + 1) C LT EQ fs W' LT EQ) va vb rest W) := by
  obtain ⟨rc, W', L1, E1, L2, E2, h1, h2, h3, h4, h5⟩ := h.stk
  rcases h1 with h1 | ⟨rfl, rfl, h1⟩
  · obtain ⟨a1, a2, l1, l2, c1, c2, e1, e2, q1, q2, q3, q4, q5⟩ := h1.len
    refine ⟨a1, a2, l1, l2, c1, c2, e1, e2, q1, q2, q3, q4, fun hend => ⟨fun hll => ?_, fun hll => ?_⟩, fun hlt1 hlt2 => ?_⟩
    · obtain ⟨z1, z2, z3⟩ := (q5 hend).1 hll
      have p1 : LT = L2 := propext (by rw [h4]; simp [z2, z3])
      have p2 : EQ = E2 := propext (by rw [h5]; simp [z3])
      have p3 : W' = W := by omega
      subst p3
      have h2' : GStk w (w.heap.size + 1 + 1 + 1) (w.heap.size + 1 + 1 + 1 + 1) C LT EQ rest W' L2 E2 := h2
      rw [← p1, ← p2] at h2'
      exact h2'
    · obtain ⟨z1, z2⟩ := (q5 hend).2 hll
      refine ⟨fun e => z1 (h5.1 e).1, ?_⟩
      rw [h4, z2]
      simp [z1]
    · obtain ⟨d, ts, us, r1, r2, o1, o2, n1, n2', cn, s1, s2', i1, i2⟩ := h1
      obtain ⟨x1, y1, f1⟩ := r1.len
      obtain ⟨x2, y2, f2⟩ := r2.len
      have g1 := r1
      have g2 := r2
      rw [e1] at f1
      rw [e2] at f2
      simp only [Value.slice.injEq] at f1 f2
      cases d with
      | zero => rw [tm0 ts] at f1; simp only [List.length_nil] at f1; omega
      | succ d =>
        obtain ⟨a1', c1', e1', g1⟩ := r1
        obtain ⟨a2', c2', e2', g2⟩ := r2
        rw [e1] at e1'
        rw [e2] at e2'
        simp only [Value.slice.injEq] at e1' e2'
        have lt1 : nx < ts.length := by omega
        have lt2 : nx < us.length := by omega
        obtain ⟨b1, p1, lv1, j1, j2, j3⟩ := g1 nx ts[nx] (List.getElem?_eq_getElem lt1)
        obtain ⟨b2, p2, lv2, m1, m2, m3⟩ := g2 nx us[nx] (List.getElem?_eq_getElem lt2)
        obtain ⟨xa, xc, ex⟩ := j3.len
        obtain ⟨ya, yc, ey⟩ := m3.len
        subst ex ey
        have ok1 := o1 ts[nx] (List.getElem_mem lt1)
        have ok2 := o2 us[nx] (List.getElem_mem lt2)
        have d1 : ts.drop nx = ts[nx] :: ts.drop (nx + 1) := List.drop_eq_getElem_cons lt1
        have d2 : us.drop nx = us[nx] :: us.drop (nx + 1) := List.drop_eq_getElem_cons lt2
        rw [d1, d2] at i1 i2
        rw [d1, cntL_cons] at cn
        have hE : E1 ↔ ts[nx] = us[nx] ∧ ts.drop (nx + 1) = us.drop (nx + 1) := by rw [i2, List.cons.injEq]
        have hst := heads_step (w := w) (A := w.heap.size + 1 + 1 + 1) (B := w.heap.size + 1 + 1 + 1 + 1) (C := C) (va := va) (vb := vb) (nx := nx) (rc' := cntL (d + 1) (ts.drop (nx + 1))) ok1.1 ok2.1 ok1.2 ok2.2 j3 m3 (L1' := ltList (Lt (d + 1)) (ts.drop (nx + 1)) (us.drop (nx + 1))) (E1' := ts.drop (nx + 1) = us.drop (nx + 1)) i1 hE h2 h4 h5 (.inl ⟨d + 1, ts, us, ⟨a1', c1', by rw [e1]; simp only [Value.slice.injEq]; exact e1', g1⟩, ⟨a2', c2', by rw [e2]; simp only [Value.slice.injEq]; exact e2', g2⟩, o1, o2, lt1, lt2, rfl, s1, s2', Iff.rfl, Iff.rfl⟩)
        refine ⟨b1, p1, b2, p2, e1'.1.trans j1, e2'.1.trans m1, _, _, _, xa, _, xc, _, _, _, ya, _, yc, j2.later h.bel, m2.later h.bel, (shape_kind2 ok1.1).1, shape_len60 ok1.1, shape_len60 ok2.1, hst.1, fun hz => ⟨(hst.2 hz).1, fun hp => rdl_some j3 hp, fun hp => rdl_some m3 hp, fun hq => ⟨_, ?_, (hst.2 hz).2.1 hq⟩, ⟨_, ?_, (hst.2 hz).2.2⟩⟩⟩
        · omega
        · omega
  · refine ⟨_, _, 1, 1, 1, 1, rfl, rfl, by omega, by omega, by omega, by omega, fun hend => ⟨fun _ => ?_, fun hll => absurd rfl hll⟩, fun hlt1 hlt2 => ?_⟩
    · obtain ⟨z0, z1, z2, z3⟩ : nx = 1 ∧ rc = 0 ∧ ¬ L1 ∧ E1 := by
        rcases h1 with h1 | h1
        · omega
        · exact h1
      have p1 : LT = L2 := propext (by rw [h4]; simp [z2, z3])
      have p2 : EQ = E2 := propext (by rw [h5]; simp [z3])
      have p3 : W' = W := by omega
      subst p3
      have h2' : GStk w (w.heap.size + 1 + 1 + 1) (w.heap.size + 1 + 1 + 1 + 1) C LT EQ rest W' L2 E2 := h2
      rw [← p1, ← p2] at h2'
      exact h2'
    · obtain ⟨rfl, rfl, z2, z3⟩ : nx = 0 ∧ rc = C ∧ (L1 ↔ LT) ∧ (E1 ↔ EQ) := by
        rcases h1 with h1 | h1
        · exact h1
        · omega
      obtain ⟨d, ts, us, o1, o2, o3, o4, o5, o6, o7, o8, o9⟩ := h.ok
      obtain ⟨xa, xc, ex⟩ := o1.len
      obtain ⟨ya, yc, ey⟩ := o2.len
      have hra := h.rt.ra
      have hrb := h.rt.rb
      subst ex ey
      have hirr : Go.Proofs.Ytbllnmafilabpaa.mk k n s ts = Go.Proofs.Ytbllnmafilabpaa.mk k2 n2 s2 us → ¬ Lt (d + 1) (Go.Proofs.Ytbllnmafilabpaa.mk k n s ts) (Go.Proofs.Ytbllnmafilabpaa.mk k2 n2 s2 us) := fun e => by rw [← e]; exact (lin_Lt (d + 1)).irr _ ⟨o3, o5⟩
      have hst := heads_step (w := w) (t := Go.Proofs.Ytbllnmafilabpaa.mk k n s ts) (u := Go.Proofs.Ytbllnmafilabpaa.mk k2 n2 s2 us) (A := w.heap.size + 1 + 1 + 1) (B := w.heap.size + 1 + 1 + 1 + 1) (C := rc) (LT := LT) (EQ := EQ) (L1 := L1) (E1 := E1) (L2 := L2) (E2 := E2) (va := .slice (some ⟨w.heap.size + 1 + 1 + 1, 0, none⟩) 1 1) (vb := .slice (some ⟨w.heap.size + 1 + 1 + 1 + 1, 0, none⟩) 1 1) (nx := 0) (rc' := 0) (W' := W') (rest := rest) (xa := xa) (ya := ya) (xc := xc) (yc := yc) o3 o4 o5 o6 o1 o2 (L1' := False) (E1' := True)
        (by rw [z2, o8]; by_cases e : Go.Proofs.Ytbllnmafilabpaa.mk k n s ts = Go.Proofs.Ytbllnmafilabpaa.mk k2 n2 s2 us; · simp [e]; have := hirr e; rw [e] at this; exact this
            · simp [e]) (by rw [z3, o9]; simp) h2 h4 h5 (.inr ⟨rfl, rfl, rfl, rfl, id, trivial⟩)
      have f1 : Four wr (w.heap.size + 1 + 1 + 1) (0 + 0 * 4) k n s (.slice xa ts.length xc) := by
        have hc := fun j => cell_of_row wr (w.heap.size + 1 + 1 + 1) j _ 26 (0, 0) hra
        exact ⟨by rw [hc]; rfl, by rw [hc]; rfl, by rw [hc]; rfl, by rw [hc]; rfl⟩
      have f2 : Four wr (w.heap.size + 1 + 1 + 1 + 1) (0 + 0 * 4) k2 n2 s2 (.slice ya us.length yc) := by
        have hc := fun j => cell_of_row wr (w.heap.size + 1 + 1 + 1 + 1) j _ 26 (0, 0) hrb
        exact ⟨by rw [hc]; rfl, by rw [hc]; rfl, by rw [hc]; rfl, by rw [hc]; rfl⟩
      have hC : W = 1 + (cntL d ts + W') := by omega
      refine ⟨_, 0, _, 0, rfl, rfl, k, n, s, xa, ts.length, xc, k2, n2, s2, ya, us.length, yc, f1, f2, (shape_kind2 o3).1, shape_len60 o3, shape_len60 o4, hst.1, fun hz => ⟨(hst.2 hz).1, fun hp => rdl_some o1 hp, fun hp => rdl_some o2 hp, fun hq => ⟨0 + W', by omega, (hst.2 hz).2.1 hq⟩, ⟨cntL d ts + (0 + W'), by omega, (hst.2 hz).2.2⟩⟩⟩

/-- The top goes on by one. -/
theorem GInv.turn {w wr V : World} {k n : Int} {s : ByteArray} {la : Value} {k2 n2 : Int} {s2 : ByteArray} {lb : Value} {LT EQ : Prop} {C met R : Nat} {va vb : Value} {nx g cap : Nat} {rest : List Ofm} {cur : Array Value} (h : GInv w wr k n s la k2 n2 s2 lb LT EQ C met R (.slice (some ⟨g, 0, none⟩) (rest.length + 1) cap) ((va, vb, nx) :: rest))
    (HG : w.heap.size + 1 + 1 + 1 + 1 + 1 ≤ g ∧ wr.heap[g]? = some (.cells cur 74 (0, 0)) ∧ rest.length + 1 ≤ cap ∧ cap ≤ maxLen ∧ cur.size = cap * 3 ∧ cur.toList.take ((rest.length + 1) * 3) = ocells ((va, vb, nx) :: rest)) (hT : Turned g wr V)
    (k0 : cur[rest.length * 3]? = some va) (k1 : cur[rest.length * 3 + 1]? = some vb) (h6 : V.heap[g]? = some (.cells (cur.setIfInBounds (rest.length * 3 + 2) (.int .i64 (nx + 1 : Nat))) 74 (0, 0))) :
    Below w.heap.size w V ∧ V.heap[w.heap.size + 1 + 1]? = some (.cells #[.int .i64 (met : Nat), .map none, .slice none 0 0] 72 (0, 0)) ∧ Roots V (w.heap.size + 1 + 1 + 1) (w.heap.size + 1 + 1 + 1 + 1) k n s la k2 n2 s2 lb ∧ V.ownsRow (w.heap.size + 1 + 1 + 1 + 1 + 1) 74 3 (.slice (some ⟨g, 0, none⟩) (rest.length + 1) cap) (rest.length + 1) (ocells ((va, vb, nx + 1) :: rest)) := by
  obtain ⟨g0, g1, g2, g3, g4, g5⟩ := HG
  have hgz := lt_of_row' g1
  have hV : ∀ j, j < w.heap.size + 1 + 1 + 1 + 1 + 1 → V.heap[j]? = wr.heap[j]? := fun j hj => hT.block j (by omega) (by omega)
  refine ⟨h.bel.trans (hT.below (by omega) h.bel.size), (hV _ (by omega)).trans h.lik, ⟨(hV _ (by omega)).trans h.rt.ra, (hV _ (by omega)).trans h.rt.rb⟩, ?_⟩
  refine orow_turn (f' := (va, vb, nx + 1)) g0 g2 g3 g4 g5 h6 (by simp) (fun j hj => by rw [Array.getElem?_setIfInBounds_ne (by omega)]) ?_ ?_ ?_
  · rw [Array.getElem?_setIfInBounds_ne (by omega)]; exact k0
  · rw [Array.getElem?_setIfInBounds_ne (by omega)]; exact k1
  · rw [Array.getElem?_setIfInBounds_self_of_lt (by omega)]

end Go.Proofs.Ytbllnmafilabpaa

/- The program's comparison of two terms that are right: the walk. -/
namespace Go.Proofs.Ytbllnmafilabpaa
open Go.RowKit
set_option linter.unusedVariables false

/-- What stands at the slot. -/
def GAt (w : World) (k n : Int) (s : ByteArray) (la : Value) (k2 n2 : Int) (s2 : ByteArray) (lb : Value) (LT EQ : Prop) (C : Nat) (under : Value) (wr : World) (W : Nat) : Prop := ∃ (met R : Nat) (fs : List Ofm), GInv w wr k n s la k2 n2 s2 lb LT EQ C met R under fs ∧ W = 2 * R + fs.length

theorem gstart (k n : Int) (s : ByteArray) (la : Value) (k2 n2 : Int) (s2 : ByteArray) (lb : Value) (LT EQ : Prop) (C : Nat) (w : World) (hok : RootsOk w k n s la k2 n2 s2 lb C LT EQ) : GInv w ((((((w.alloc (.cells #[.int .i64 k, .int .i64 n, .string s, la] 26)).alloc (.cells #[.int .i64 k2, .int .i64 n2, .string s2, lb] 26)).alloc (.cells #[.int .i64 0, .map none, .slice none 0 0] 72)).alloc (.cells #[.int .i64 k, .int .i64 n, .string s, la] 26)).alloc (.cells #[.int .i64 k2, .int .i64 n2, .string s2, lb] 26)).alloc (.cells #[.slice (some ⟨w.heap.size + 1 + 1 + 1, 0, none⟩) 1 1, .slice (some ⟨w.heap.size + 1 + 1 + 1 + 1, 0, none⟩) 1 1, .int .i64 0] 74))
    k n s la k2 n2 s2 lb LT EQ C 0 C (.slice (some ⟨w.heap.size + 1 + 1 + 1 + 1 + 1, 0, none⟩) 1 1) [(.slice (some ⟨w.heap.size + 1 + 1 + 1, 0, none⟩) 1 1, .slice (some ⟨w.heap.size + 1 + 1 + 1 + 1, 0, none⟩) 1 1, 0)] := by
  obtain ⟨w1, h1⟩ : ∃ w1, w1 = w.alloc (.cells #[.int .i64 k, .int .i64 n, .string s, la] 26) := ⟨_, rfl⟩
  obtain ⟨w2, h2⟩ : ∃ w2, w2 = w1.alloc (.cells #[.int .i64 k2, .int .i64 n2, .string s2, lb] 26) := ⟨_, rfl⟩
  obtain ⟨w3, h3⟩ : ∃ w3, w3 = w2.alloc (.cells #[.int .i64 0, .map none, .slice none 0 0] 72) := ⟨_, rfl⟩
  obtain ⟨w4, h4⟩ : ∃ w4, w4 = w3.alloc (.cells #[.int .i64 k, .int .i64 n, .string s, la] 26) := ⟨_, rfl⟩
  obtain ⟨w5, h5⟩ : ∃ w5, w5 = w4.alloc (.cells #[.int .i64 k2, .int .i64 n2, .string s2, lb] 26) := ⟨_, rfl⟩
  obtain ⟨w6, h6⟩ : ∃ w6, w6 = w5.alloc (.cells #[.slice (some ⟨w.heap.size + 1 + 1 + 1, 0, none⟩) 1 1, .slice (some ⟨w.heap.size + 1 + 1 + 1 + 1, 0, none⟩) 1 1, .int .i64 0] 74) := ⟨_, rfl⟩
  have z1 : w1.heap.size = w.heap.size + 1 := by rw [h1]; simp
  have z2 : w2.heap.size = w.heap.size + 1 + 1 := by rw [h2]; simp [z1]
  have z3 : w3.heap.size = w.heap.size + 1 + 1 + 1 := by rw [h3]; simp [z2]
  have z4 : w4.heap.size = w.heap.size + 1 + 1 + 1 + 1 := by rw [h4]; simp [z3]
  have z5 : w5.heap.size = w.heap.size + 1 + 1 + 1 + 1 + 1 := by rw [h5]; simp [z4]
  have b1 : Below w.heap.size w w1 := by rw [h1]; exact (Below.refl _ _).alloc (Nat.le_refl _) _
  have b2 : Below w1.heap.size w1 w2 := by rw [h2]; exact (Below.refl _ _).alloc (Nat.le_refl _) _
  have b3 : Below w2.heap.size w2 w3 := by rw [h3]; exact (Below.refl _ _).alloc (Nat.le_refl _) _
  have b4 : Below w3.heap.size w3 w4 := by rw [h4]; exact (Below.refl _ _).alloc (Nat.le_refl _) _
  have b5 : Below w4.heap.size w4 w5 := by rw [h5]; exact (Below.refl _ _).alloc (Nat.le_refl _) _
  have b6 : Below w5.heap.size w5 w6 := by rw [h6]; exact (Below.refl _ _).alloc (Nat.le_refl _) _
  have n3 : w3.heap[w2.heap.size]? = some (.cells #[.int .i64 0, .map none, .slice none 0 0] 72 (0, 0)) := by rw [h3]; exact heap_alloc_new w2 _
  have n4 : w4.heap[w3.heap.size]? = some (.cells #[.int .i64 k, .int .i64 n, .string s, la] 26 (0, 0)) := by rw [h4]; exact heap_alloc_new w3 _
  have n5 : w5.heap[w4.heap.size]? = some (.cells #[.int .i64 k2, .int .i64 n2, .string s2, lb] 26 (0, 0)) := by rw [h5]; exact heap_alloc_new w4 _
  have n6 : w6.heap[w5.heap.size]? = some (.cells #[.slice (some ⟨w.heap.size + 1 + 1 + 1, 0, none⟩) 1 1, .slice (some ⟨w.heap.size + 1 + 1 + 1 + 1, 0, none⟩) 1 1, .int .i64 0] 74 (0, 0)) := by rw [h6]; exact heap_alloc_new w5 _
  rw [← h1, ← h2, ← h3, ← h4, ← h5, ← h6]
  rw [z2] at n3
  rw [z3] at n4
  rw [z4] at n5
  rw [z5] at n6
  have b35 : Below w3.heap.size w3 w6 := b4.trans ((b5.trans (b6.mono b5.size)).mono b4.size)
  have b45 : Below w4.heap.size w4 w6 := b5.trans (b6.mono b5.size)
  exact ⟨b1.trans ((b2.trans ((b3.trans (b35.mono b3.size)).mono b2.size)).mono b1.size), (b35.block _ (by omega)).trans n3, ⟨(b45.block _ (by omega)).trans n4, (b6.block _ (by omega)).trans n5⟩, hok, ⟨C, 0, LT, EQ, False, True, .inr ⟨rfl, rfl, .inl ⟨rfl, rfl, Iff.rfl, Iff.rfl⟩⟩, ⟨rfl, id, trivial⟩, rfl, by simp, by simp⟩, ⟨rfl, .inr ⟨_, 1, _, rfl, Nat.le_refl _, n6, Nat.le_refl _, by unfold maxLen; omega, rfl, rfl⟩⟩, by omega, by simp only [List.length_cons, List.length_nil]; omega⟩

/-- What holds of the world but for what is under way. -/
def Quad (w X : World) (k n : Int) (s : ByteArray) (la : Value) (k2 n2 : Int) (s2 : ByteArray) (lb : Value) (met g m cap : Nat) (cs : List Value) : Prop :=
  Below w.heap.size w X ∧ X.heap[w.heap.size + 1 + 1]? = some (.cells #[.int .i64 (met : Nat), .map none, .slice none 0 0] 72 (0, 0)) ∧ Roots X (w.heap.size + 1 + 1 + 1) (w.heap.size + 1 + 1 + 1 + 1) k n s la k2 n2 s2 lb ∧ X.ownsRow (w.heap.size + 1 + 1 + 1 + 1 + 1) 74 3 (.slice (some ⟨g, 0, none⟩) (m + 1) cap) (m + 1) cs

theorem g_meet {w X w3 : World} {k n : Int} {s : ByteArray} {la : Value} {k2 n2 : Int} {s2 : ByteArray} {lb : Value} {met met' g m cap : Nat} {cs : List Value} (h : Quad w X k n s la k2 n2 s2 lb met g m cap cs) (hg : w.heap.size + 1 + 1 + 1 + 1 + 1 ≤ g) (hT : Turned (w.heap.size + 1 + 1) X w3)
    (hl : w3.heap[w.heap.size + 1 + 1]? = some (.cells #[.int .i64 (met' : Nat), .map none, .slice none 0 0] 72 (0, 0))) : Quad w w3 k n s la k2 n2 s2 lb met' g m cap cs := by
  obtain ⟨h1, h2, h3, h4⟩ := h
  have hz := lt_of_row' h3.rb
  refine ⟨h1.trans (hT.below (by omega) h1.size), hl, ⟨(hT.block _ (by omega) (by omega)).trans h3.ra, (hT.block _ (by omega) (by omega)).trans h3.rb⟩, rowKept h4 fun j hj => ?_⟩
  obtain rfl : g = j := by simpa [Value.ownBlock] using hj
  rcases h4.2 with ⟨e, _⟩ | ⟨g', c, cur, e, hg0, hg', _⟩
  · simp at e
  · simp only [Value.slice.injEq, Option.some.injEq, Addr.mk.injEq, and_true] at e
    obtain rfl : g = g' := e.1
    exact hT.block _ (lt_of_row' hg') (by omega)

theorem g_turn {w X : World} {k n : Int} {s : ByteArray} {la : Value} {k2 n2 : Int} {s2 : ByteArray} {lb : Value} {LT EQ : Prop} {C met W g m cap : Nat} {fs : List Ofm} (h : Quad w X k n s la k2 n2 s2 lb met g m cap (ocells fs)) (hm : fs.length = m + 1) (hok : RootsOk w k n s la k2 n2 s2 lb C LT EQ) (hst : GStk w (w.heap.size + 1 + 1 + 1) (w.heap.size + 1 + 1 + 1 + 1) C LT EQ fs W LT EQ) (hwk : met + W ≤ C) (hfew : fs.length + W ≤ C + 1) :
    GInv w X k n s la k2 n2 s2 lb LT EQ C met W (.slice (some ⟨g, 0, none⟩) (m + 1) cap) fs := by
  obtain ⟨h1, h2, h3, h4⟩ := h
  rw [← hm] at h4 ⊢
  exact ⟨h1, h2, h3, hok, hst, h4, hwk, hfew⟩

theorem g_push {w Z w4 : World} {k n : Int} {s : ByteArray} {la : Value} {k2 n2 : Int} {s2 : ByteArray} {lb : Value} {LT EQ : Prop} {C met W g m cap : Nat} {fs : List Ofm} {va vb v' : Value} {ob : Obj} (h : Quad w Z k n s la k2 n2 s2 lb met g m cap (ocells fs)) (hg : w.heap.size + 1 + 1 + 1 + 1 + 1 ≤ g) (hm : fs.length = m + 1)
    (hgr : (Z.alloc ob).grownBy w4 (some g)) (hown : w4.ownsRow (w.heap.size + 1 + 1 + 1 + 1 + 1) 74 3 v' (m + 1 + 1) (ocells fs ++ [va, vb, .int .i64 0])) (hok : RootsOk w k n s la k2 n2 s2 lb C LT EQ) (hst : GStk w (w.heap.size + 1 + 1 + 1) (w.heap.size + 1 + 1 + 1 + 1) C LT EQ ((va, vb, 0) :: fs) W LT EQ) (hwk : met + W ≤ C) (hfew : m + 1 + 1 + W ≤ C + 1) :
    GInv w w4 k n s la k2 n2 s2 lb LT EQ C met W v' ((va, vb, 0) :: fs) := by
  obtain ⟨h1, h2, h3, h4⟩ := h
  have hz := lt_of_row' h3.rb
  have hV : ∀ j, j < w.heap.size + 1 + 1 + 1 + 1 + 1 → w4.heap[j]? = Z.heap[j]? := fun j hj => (hgr.block j (by simp; omega) (by simp; omega)).trans (Below.heap_alloc Z _ j (by omega))
  refine ⟨h1.trans (((Below.refl w.heap.size Z).alloc h1.size _).grown hgr (by simp; have := h1.size; omega) (fun k hk => by cases hk; omega)), (hV _ (by omega)).trans h2, ⟨(hV _ (by omega)).trans h3.ra, (hV _ (by omega)).trans h3.rb⟩, hok, hst, ?_, hwk, by simp only [List.length_cons]; omega⟩
  rw [ocells_cons, List.length_cons, hm]
  exact hown

theorem cmpI_bd (x y : Int) : -1 ≤ cmpI x y ∧ cmpI x y ≤ 1 := by unfold cmpI; split <;> (try split) <;> omega
theorem cmpB_bd (x y : ByteArray) : -1 ≤ cmpB x y ∧ cmpB x y ≤ 1 := by unfold cmpB; split <;> (try split) <;> omega
theorem hway_bd (k n : Int) (s : ByteArray) (l : Nat) (k' n' : Int) (s' : ByteArray) (l' : Nat) : -1 ≤ hway k n s l k' n' s' l' ∧ hway k n s l k' n' s' l' ≤ 1 := by
  unfold hway
  split
  · exact cmpI_bd _ _
  · split
    · exact cmpI_bd _ _
    · split
      · exact cmpB_bd _ _
      · split
        · exact cmpI_bd _ _
        · omega

set_option maxRecDepth 100000 in
set_option maxHeartbeats 4000000 in
theorem orderOf_any (k n : Int) (s : ByteArray) (a1 : Option Addr) (len1 c1 : Nat) (k2 n2 : Int) (s2 : ByteArray) (a2 : Option Addr) (len2 c2 : Nat) (LT EQ : Prop) (C : Nat) (w : World) (hok : RootsOk w k n s (.slice a1 len1 c1) k2 n2 s2 (.slice a2 len2 c2) C LT EQ) (hC : C ≤ 300) :
    Calls Try.prog 22 #[.agg #[.int .i64 k, .int .i64 n, .string s, .slice a1 len1 c1], .agg #[.int .i64 k2, .int .i64 n2, .string s2, .slice a2 len2 c2]] w fun e w' => ∃ r : Int, e = .returned (.int .i64 r) ∧ Hid (((r < 0 ↔ LT) ∧ (r = 0 ↔ EQ)) ∧ -1 ≤ r ∧ r ≤ 1) ∧ Below w.heap.size w w' := by
  have H0 : Hid (GInv w _ k n s (.slice a1 len1 c1) k2 n2 s2 (.slice a2 len2 c2) LT EQ C 0 C _ _) := gstart k n s (.slice a1 len1 c1) k2 n2 s2 (.slice a2 len2 c2) LT EQ C w hok
  obtain ⟨μ', hμ'⟩ := least_work (fun _ b c m => GAt w k n s (.slice a1 len1 c1) k2 n2 s2 (.slice a2 len2 c2) LT EQ C b c m)
  obtain ⟨μ, hμe⟩ : ∃ μ : Value → World → Nat, μ = fun b c => μ' undef b c := ⟨_, rfl⟩
  have HMU : Hid (∀ b c m, GAt w k n s (.slice a1 len1 c1) k2 n2 s2 (.slice a2 len2 c2) LT EQ C b c m → GAt w k n s (.slice a1 len1 c1) k2 n2 s2 (.slice a2 len2 c2) LT EQ C b c (μ b c) ∧ μ b c ≤ m) := fun b c m h => by rw [hμe]; exact hμ' undef b c m h
  clear hμ' hμe hok
  go_enter Try.func22, Try.ntmps22
  go_wp2_with fail
  go_loopw [6] (fun under wr => Hid (∃ W, GAt w k n s (.slice a1 len1 c1) k2 n2 s2 (.slice a2 len2 c2) LT EQ C under wr W)) (fun under wr => μ under wr)
  case atStart => exact ⟨_, 0, _, _, H0.out, rfl⟩
  case round =>
    obtain ⟨W0, hW0⟩ := hrel.out
    have hM := (HMU.out _ _ _ hW0).1
    obtain ⟨W, hWe⟩ : ∃ W, μ u6 wr = W := ⟨_, rfl⟩
    rw [hWe] at hM
    have HWE : Hid (μ u6 wr = W) := hWe
    clear H0 hrel hW0 hWe
    obtain ⟨met, R, fs, hI, hWR⟩ := hM
    cases fs with
    | nil =>
      have hbel := hI.bel
      have HF : Hid (∀ r : Int, r = 0 → ((r < 0 ↔ LT) ∧ (r = 0 ↔ EQ)) ∧ -1 ≤ r ∧ r ≤ 1) := by
        obtain ⟨_, h1, h2⟩ := hI.stk
        exact fun r hr => ⟨⟨⟨fun h => absurd h (by omega), fun h => absurd h h1⟩, ⟨fun _ => h2, fun _ => hr⟩⟩, by omega, by omega⟩
      obtain ⟨ua, uc, rfl⟩ : ∃ ua uc, u6 = .slice ua 0 uc := by
        rcases hI.row.2 with ⟨e, _⟩ | ⟨g, c, cur, e1, _⟩
        · exact ⟨_, _, e⟩
        · exact ⟨_, _, e1⟩
      clear hI
      go_wp2_with fail
      go_ret
      exact ⟨0, rfl, HF.out 0 rfl, hbel⟩
    | cons top rest =>
      obtain ⟨va, vb, nx⟩ := top
      obtain ⟨b1, b2, l1, l2, e1, e2, rfl, rfl, hnx, hnx', hl60, hl60', hdone, hnext⟩ := hI.top
      obtain ⟨g, cap, cur, rfl, hg0, hg, hg1, hg2, hg3, hg4, k0, k1, k2'⟩ := orow_top hI.row
      have hfew := hI.few
      have hwk := hI.work
      have t0 : wr.cell? ⟨g, rest.length * 3, none⟩ = some (.slice b1 l1 e1) := by rw [cell_of_row wr _ _ _ _ _ hg]; exact k0
      have t1 : wr.cell? ⟨g, rest.length * 3 + 1, none⟩ = some (.slice b2 l2 e2) := by rw [cell_of_row wr _ _ _ _ _ hg]; exact k1
      have t2 : wr.cell? ⟨g, rest.length * 3 + 2, none⟩ = some (.int .i64 nx) := by rw [cell_of_row wr _ _ _ _ _ hg]; exact k2'
      obtain ⟨m, hm⟩ : ∃ m, rest.length = m := ⟨_, rfl⟩
      have HL : Hid (rest.length = m) := hm
      have HI : Hid (GInv w wr k n s (.slice a1 len1 c1) k2 n2 s2 (.slice a2 len2 c2) LT EQ C met R (.slice (some ⟨g, 0, none⟩) (rest.length + 1) cap) ((.slice b1 l1 e1, .slice b2 l2 e2, nx) :: rest)) := hI
      have HK : Hid (cur[rest.length * 3]? = some (.slice b1 l1 e1) ∧ cur[rest.length * 3 + 1]? = some (.slice b2 l2 e2) ∧ cur[rest.length * 3 + 2]? = some (.int .i64 nx)) := ⟨k0, k1, k2'⟩
      have HG : Hid (w.heap.size + 1 + 1 + 1 + 1 + 1 ≤ g ∧ wr.heap[g]? = some (.cells cur 74 (0, 0)) ∧ rest.length + 1 ≤ cap ∧ cap ≤ maxLen ∧ cur.size = cap * 3 ∧ cur.toList.take ((rest.length + 1) * 3) = ocells ((.slice b1 l1 e1, .slice b2 l2 e2, nx) :: rest)) := ⟨hg0, hg, hg1, hg2, hg3, hg4⟩
      have HDN : Hid ((nx = l1 ∨ nx = l2) → (l1 = l2 → GStk w (w.heap.size + 1 + 1 + 1) (w.heap.size + 1 + 1 + 1 + 1) C LT EQ rest R LT EQ) ∧ (l1 ≠ l2 → ¬ EQ ∧ (LT ↔ l1 < l2))) := hdone
      have HNX : Hid (nx < l1 → nx < l2 → ∃ x1 o1 x2 o2, b1 = some ⟨x1, o1, none⟩ ∧ b2 = some ⟨x2, o2, none⟩ ∧ GNx w wr x1 o1 x2 o2 nx LT EQ (fun fs W' => GStk w (w.heap.size + 1 + 1 + 1) (w.heap.size + 1 + 1 + 1 + 1) C LT EQ fs W' LT EQ) (.slice b1 l1 e1) (.slice b2 l2 e2) rest R) := hnext
      have HWR : Hid (W = 2 * R + (rest.length + 1)) := hWR
      have HFEW : Hid (m + 1 + R ≤ C + 1) := by show _ ≤ _; simp only [List.length_cons] at hfew; omega
      have hm1 : m ≤ 300 := by simp only [List.length_cons] at hfew; omega
      have hgz := lt_of_row' hg
      rw [hm] at t0 t1 t2 ⊢
      have hl1 : l1 ≤ 100000 := by omega
      have hl2 : l2 ≤ 100000 := by omega
      have hnx1 : nx ≤ 100000 := by omega
      clear hm hI hg hg1 hg2 hg3 hg4 k0 k1 k2' hdone hnext hWR hfew hl60 hl60'
      by_cases hlt : nx < l1 ∧ nx < l2
      · obtain ⟨hlt1, hlt2⟩ := hlt
        have hmin : ((nx : Int) == if l2 < l1 then (l2 : Int) else (l1 : Int)) = false := by split <;> simp <;> omega
        go_wp2_with fail
        go_cut [43] (fun v wx => v = .bool false ∧ Below wr.heap.size wr wx)
        case first =>
          go_quiet (fail)
          go_wp2_with fail
          all_goals
            go_meet
            case rel => exact ⟨rfl, below_drewN (Below.refl _ _) _⟩
        case rest =>
          obtain ⟨rfl, hbc⟩ := hcut
          obtain ⟨w1, hw1⟩ : ∃ w1, w1 = wc := ⟨_, rfl⟩
          subst hw1
          obtain ⟨p1, q1, p2, q2, rfl, rfl, kk, nn, ss, xa, xl, xc, kk2, nn2, ss2, ya, yl, yc, F1, F2, hkk, hxl, hyl, hun, hal⟩ := HNX.out hlt1 hlt2
          obtain ⟨pa, pb, hpp, hOH⟩ := heads_any kk nn ss xa xl xc kk2 nn2 ss2 ya yl yc w hkk
          obtain ⟨f0, f1, f2, f3⟩ := F1.later hbc
          obtain ⟨x0, x1, x2, x3⟩ := F2.later hbc
          have t0' := cell_later hbc t0
          have t1' := cell_later hbc t1
          have t2' := cell_later hbc t2
          have hi1 : (nx : Int) < (l1 : Int) := by omega
          have hi2 : (nx : Int) < (l2 : Int) := by omega
          have HBC : Hid (Below wr.heap.size wr w1) := hbc
          have HOH : Hid (∀ V : World, Calls Try.prog 36 #[.agg #[.int .i64 kk, .int .i64 nn, .string ss, .slice xa xl xc], .agg #[.int .i64 kk2, .int .i64 nn2, .string ss2, .slice ya yl yc]] V fun e w' => e = .returned (.tuple #[.int .i64 (hway kk nn ss xl kk2 nn2 ss2 yl), pa, pb]) ∧ Below V.heap.size V w') := hOH
          obtain ⟨way, hway_⟩ : ∃ way, hway kk nn ss xl kk2 nn2 ss2 yl = way := ⟨_, rfl⟩
          rw [hway_] at HOH hpp hun hal
          have HWB : Hid (-1 ≤ way ∧ way ≤ 1) := by rw [← hway_]; exact hway_bd _ _ _ _ _ _ _ _
          have HUN : Hid (way ≠ 0 → ¬ EQ ∧ (LT ↔ way < 0)) := hun
          have HAL : Hid (way = 0 → pa = partsV kk (.slice xa xl xc) ∧ pb = partsV kk (.slice ya yl yc) ∧ (¬ (kk = 4 ∨ kk = 5) → xl = 0 ∧ yl = 0) ∧ (0 < xl → ∃ b o, xa = some ⟨b, o, none⟩) ∧ (0 < yl → ∃ b o, ya = some ⟨b, o, none⟩) ∧ (xl = 0 ∧ yl = 0 → ∃ W', W' < R ∧ (fun fs W' => GStk w (w.heap.size + 1 + 1 + 1) (w.heap.size + 1 + 1 + 1 + 1) C LT EQ fs W' LT EQ) ((.slice (some ⟨p1, q1, none⟩) l1 e1, .slice (some ⟨p2, q2, none⟩) l2 e2, nx + 1) :: rest) W') ∧ (∃ W', W' < R ∧ (fun fs W' => GStk w (w.heap.size + 1 + 1 + 1) (w.heap.size + 1 + 1 + 1 + 1) C LT EQ fs W' LT EQ) ((.slice xa xl xc, .slice ya yl yc, 0) :: (.slice (some ⟨p1, q1, none⟩) l1 e1, .slice (some ⟨p2, q2, none⟩) l2 e2, nx + 1) :: rest) W')) := fun e => ⟨(hpp e).1, (hpp e).2, hal e⟩
          clear F1 F2 hkk hun hal hpp hOH t0 t1 hbc HNX HDN hway_ hmin
          go_wp2_with fail
          go_cut [9, 10, 11] (fun v9 v10 v11 wx => v9 = .int .i64 way ∧ v10 = pa ∧ v11 = pb ∧ Below w1.heap.size w1 wx)
          case first =>
            have hne := After.some w1
            have a0 := After.cell t0'
            have a1 := After.cell t1'
            have a2 := After.cell t2'
            have g0 := After.cell f0
            have g1 := After.cell f1
            have g2 := After.cell f2
            have g3 := After.cell f3
            have h0 := After.cell x0
            have h1 := After.cell x1
            have h2 := After.cell x2
            have h3 := After.cell x3
            refine wp_region_after (by kernel_rfl) (by kernel_rfl) ?_
            repeat (go_big_quiet_step ((go_at_call 36; exact calls_after (HOH.out _))))
            refine wpQuiet_nil ?_
            rintro _ ⟨nq, rfl⟩
            have hB := nq.bel
            go_wp2_with fail
            go_meet
            case rel => exact ⟨rfl, rfl, rfl, hB⟩
          case rest =>
            obtain ⟨rfl, rfl, rfl, hbd⟩ := hcut
            obtain ⟨w2, hw2⟩ : ∃ w2, w2 = wc := ⟨_, rfl⟩
            subst hw2
            have hbe : Below wr.heap.size wr w2 := HBC.out.trans (hbd.mono HBC.out.size)
            by_cases hw0 : way = 0
            · subst hw0
              obtain ⟨hpa, hpb, hkz, hxa, hya, hnone, hpush⟩ := HAL.out rfl
              have hg2 : w2.heap[g]? = some (.cells cur 74 (0, 0)) := (hbe.block g hgz).trans HG.out.2.1
              have t2'' := cell_later hbe t2
              have y2'' : w2.frozen? ⟨g, m * 3 + 2, none⟩ = false := frozen_of_row w2 _ _ _ _ hg2
              obtain ⟨X, hX⟩ : ∃ X, X = w2.setCell ⟨g, m * 3 + 2, none⟩ (.int .i64 (↑nx + 1)) := ⟨_, rfl⟩
              have hIX := HI.out.turn HG.out (V := X) (by rw [hX]; exact (Turned.of_below hbe).trans (Turned.of_set w2 g _ _)) HK.out.1 HK.out.2.1 (by rw [hX, HL.out]; exact heap_setCell_same w2 g _ _ _ _ hg2)
              rw [HL.out] at hIX
              have HX : Hid (X = w2.setCell ⟨g, m * 3 + 2, none⟩ (.int .i64 (↑nx + 1))) := hX
              have HIX : Hid (Quad w X k n s (.slice a1 len1 c1) k2 n2 s2 (.slice a2 len2 c2) met g m cap (ocells ((.slice (some ⟨p1, q1, none⟩) l1 e1, .slice (some ⟨p2, q2, none⟩) l2 e2, nx + 1) :: rest))) := hIX
              have HOK : Hid (RootsOk w k n s (.slice a1 len1 c1) k2 n2 s2 (.slice a2 len2 c2) C LT EQ) := HI.out.ok
              have HNO : Hid (xl = 0 ∧ yl = 0 → ∃ W', W' < R ∧ (fun fs W' => GStk w (w.heap.size + 1 + 1 + 1) (w.heap.size + 1 + 1 + 1 + 1) C LT EQ fs W' LT EQ) ((.slice (some ⟨p1, q1, none⟩) l1 e1, .slice (some ⟨p2, q2, none⟩) l2 e2, nx + 1) :: rest) W') := hnone
              have HPU : Hid (∃ W', W' < R ∧ (fun fs W' => GStk w (w.heap.size + 1 + 1 + 1) (w.heap.size + 1 + 1 + 1 + 1) C LT EQ fs W' LT EQ) ((.slice xa xl xc, .slice ya yl yc, 0) :: (.slice (some ⟨p1, q1, none⟩) l1 e1, .slice (some ⟨p2, q2, none⟩) l2 e2, nx + 1) :: rest) W') := hpush
              clear f0 f1 f2 f3 x0 x1 x2 x3 t0' t1' t2' t2 hi1 hi2 hbe hg2 hbd HOH HI HK HG HBC HAL HUN hIX hnone hpush
              by_cases hz : xl = 0 ∧ yl = 0
              · obtain ⟨W', hW', hstk⟩ := HNO.out hz
                obtain ⟨rfl, rfl⟩ := hz
                obtain ⟨pxa, pxc, rfl⟩ : ∃ a c, u10 = .slice a 0 c := by
                  rw [hpa]; unfold partsV; split
                  · exact ⟨_, _, rfl⟩
                  · exact ⟨_, _, rfl⟩
                obtain ⟨pya, pyc, rfl⟩ : ∃ a c, u11 = .slice a 0 c := by
                  rw [hpb]; unfold partsV; split
                  · exact ⟨_, _, rfl⟩
                  · exact ⟨_, _, rfl⟩
                have hC := taken_none (w.heap.size + 1 + 1) pxa pya pxc pyc X
                have HST : Hid (GStk w (w.heap.size + 1 + 1 + 1) (w.heap.size + 1 + 1 + 1 + 1) C LT EQ ((.slice (some ⟨p1, q1, none⟩) l1 e1, .slice (some ⟨p2, q2, none⟩) l2 e2, nx + 1) :: rest) W' LT EQ) := hstk
                rw [hX] at hC
                clear hX hpa hpb hxa hya hkz hstk HNO HPU
                go_wp2_with fail
                refine hC.mono ?_
                clear hC
                rintro e w3 ⟨rfl, hw3⟩
                rw [← HX.out] at hw3
                have HI3 : Hid (GInv w w3 k n s (.slice a1 len1 c1) k2 n2 s2 (.slice a2 len2 c2) LT EQ C met W' (.slice (some ⟨g, 0, none⟩) (m + 1) cap) ((.slice (some ⟨p1, q1, none⟩) l1 e1, .slice (some ⟨p2, q2, none⟩) l2 e2, nx + 1) :: rest)) := by
                  rw [← hw3]
                  exact g_turn HIX.out (by simp only [List.length_cons, HL.out]) HOK.out HST.out (by omega) (by have := HFEW.out; simp only [List.length_cons, HL.out]; omega)
                clear hw3 HIX HX t2'' y2''
                go_wp2_with fail
                go_roundw
                case rel => exact ⟨_, _, _, _, HI3.out, rfl⟩
                case measure =>
                  have h1 := (HMU.out _ _ _ ⟨_, _, _, HI3.out, rfl⟩).2
                  have h2 := HWE.out
                  have h3 := HWR.out
                  rw [HL.out] at h2 h3
                  simp only [List.length_cons, HL.out] at h1
                  omega
              · have h45 : kk = 4 ∨ kk = 5 := Classical.byContradiction fun h => hz (hkz h)
                obtain rfl : u10 = .slice xa xl xc := by rw [hpa]; unfold partsV; rw [if_pos h45]
                obtain rfl : u11 = .slice ya yl yc := by rw [hpb]; unfold partsV; rw [if_pos h45]
                obtain ⟨W', hW', hstk⟩ := HPU.out
                have HST : Hid (GStk w (w.heap.size + 1 + 1 + 1) (w.heap.size + 1 + 1 + 1 + 1) C LT EQ ((.slice xa xl xc, .slice ya yl yc, 0) :: ((.slice (some ⟨p1, q1, none⟩) l1 e1, .slice (some ⟨p2, q2, none⟩) l2 e2, nx + 1) :: rest)) W' LT EQ) := hstk
                have hC : Calls Try.prog 37 #[.pointer (some ⟨w.heap.size + 1 + 1, 0, none⟩), .slice xa xl xc, .slice ya yl yc] X fun e w' => e = .returned (.bool false) ∧ Hid (∃ met', met' ≤ met + 1 ∧ Quad w w' k n s (.slice a1 len1 c1) k2 n2 s2 (.slice a2 len2 c2) met' g m cap (ocells ((.slice (some ⟨p1, q1, none⟩) l1 e1, .slice (some ⟨p2, q2, none⟩) l2 e2, nx + 1) :: rest))) := by
                  by_cases hb : xl = 0 ∨ yl = 0
                  · refine (taken_empty (w.heap.size + 1 + 1) xa ya xl yl xc yc X hb).mono ?_
                    rintro e w' ⟨rfl, rfl⟩
                    exact ⟨by rw [decide_eq_false hz], met, by omega, HIX.out⟩
                  · obtain ⟨x1, o1, rfl⟩ := hxa (by omega)
                    obtain ⟨x2, o2, rfl⟩ := hya (by omega)
                    refine (taken_two (w.heap.size + 1 + 1) met _ _ x1 o1 x2 o2 xl yl xc yc X HIX.out.2.1 (by omega) (by omega) (by omega) (by omega) (by omega)).mono ?_
                    rintro e w' ⟨rfl, hl, hT⟩
                    exact ⟨rfl, met + 1, by omega, g_meet HIX.out hg0 hT hl⟩
                rw [hX] at hC
                clear hX hpa hpb hxa hya hkz hstk HNO HPU hz h45
                go_wp2_with fail
                refine hC.mono ?_
                clear hC
                rintro e w3 ⟨rfl, HQ⟩
                obtain ⟨met', hmet', hq⟩ := HQ.out
                have HQ3 : Hid (Quad w w3 k n s (.slice a1 len1 c1) k2 n2 s2 (.slice a2 len2 c2) met' g m cap (ocells ((.slice (some ⟨p1, q1, none⟩) l1 e1, .slice (some ⟨p2, q2, none⟩) l2 e2, nx + 1) :: rest))) := hq
                have HROW : Hid (w3.ownsRow (w.heap.size + 1 + 1 + 1 + 1 + 1) 74 3 (.slice (some ⟨g, 0, none⟩) (m + 1) cap) (m + 1) (ocells ((.slice (some ⟨p1, q1, none⟩) l1 e1, .slice (some ⟨p2, q2, none⟩) l2 e2, nx + 1) :: rest))) := hq.2.2.2
                have hgz3 : w.heap.size + 1 + 1 + 1 + 1 + 1 ≤ w3.heap.size := lt_of_row' hq.2.2.1.rb
                obtain ⟨i0, hi, hi0, hi1, hi2⟩ := info_parts Try.infoOrdering
                clear hq HQ HIX HX t2'' y2''
                go_wp2_with (first | (at_builtin; refine wpList_append_own_at _ rfl _ _ 75 rfl (w.heap.size + 1 + 1 + 1 + 1 + 1) 74 i0 (.agg #[.slice none 0 0, .slice none 0 0, .int .i64 0]) 3 56 Try.underlying75 hi hi0 hi1 hi2 rfl (by decide) _ _ _ rfl (HROW.out.alloc _) ⟨w3.heap.size, 0, none⟩ 1 1 [.slice xa xl xc, .slice ya yl yc, .int .i64 0] rfl rfl (three_new w3 _ _ _ _) (by intro u hu; simp at hu; rcases hu with rfl | rfl | rfl <;> rfl) (by unfold maxLen; omega) (by omega) (by simp; omega) ?_; intro v' w4 hown4 hgrow4 _ hat) | go_in)
                have HM4 : Hid (GInv w w4 k n s (.slice a1 len1 c1) k2 n2 s2 (.slice a2 len2 c2) LT EQ C met' W' v' ((.slice xa xl xc, .slice ya yl yc, 0) :: ((.slice (some ⟨p1, q1, none⟩) l1 e1, .slice (some ⟨p2, q2, none⟩) l2 e2, nx + 1) :: rest))) := g_push HQ3.out hg0 (by simp only [List.length_cons, HL.out]) hgrow4 hown4 HOK.out HST.out (by omega) (by have := HFEW.out; omega)
                clear hown4 hgrow4 hat
                go_wp2_with fail
                go_roundw
                case rel => exact ⟨_, _, _, _, HM4.out, rfl⟩
                case measure =>
                  have h1 := (HMU.out _ _ _ ⟨_, _, _, HM4.out, rfl⟩).2
                  have h2 := HWE.out
                  have h3 := HWR.out
                  rw [HL.out] at h2 h3
                  simp only [List.length_cons, HL.out] at h1
                  omega
            · have HF : Hid (((way < 0 ↔ LT) ∧ (way = 0 ↔ EQ)) ∧ -1 ≤ way ∧ way ≤ 1) := ⟨⟨(HUN.out hw0).2.symm, ⟨fun e => absurd e hw0, fun e => absurd e (HUN.out hw0).1⟩⟩, HWB.out⟩
              have hbf : Below w.heap.size w w2 := HI.out.bel.trans (hbe.mono HI.out.bel.size)
              clear f0 f1 f2 f3 x0 x1 x2 x3 t0' t1' t2' t2 hi1 hi2 hbe hbd HOH HBC HAL HUN
              go_wp2_with fail
              go_ret
              exact ⟨way, rfl, HF, hbf⟩
      · have hmin : ((nx : Int) == if l2 < l1 then (l2 : Int) else (l1 : Int)) = true := by split <;> simp <;> omega
        have hend : nx = l1 ∨ nx = l2 := by omega
        have HST : Hid ((l1 = l2 → GStk w (w.heap.size + 1 + 1 + 1) (w.heap.size + 1 + 1 + 1 + 1) C LT EQ rest R LT EQ) ∧ (l1 ≠ l2 → ¬ EQ ∧ (LT ↔ l1 < l2))) := HDN.out hend
        clear HDN HNX
        go_wp2_with fail
        go_cut [43] (fun v wx => v = .bool true ∧ Below wr.heap.size wr wx)
        case first =>
          go_quiet (fail)
          go_wp2_with fail
          all_goals
            go_meet
            case rel => exact ⟨rfl, below_drewN (Below.refl _ _) _⟩
        case rest =>
          obtain ⟨rfl, hbc⟩ := hcut
          obtain ⟨w1, hw1⟩ : ∃ w1, w1 = wc := ⟨_, rfl⟩
          subst hw1
          have t0' := cell_later hbc t0
          have t1' := cell_later hbc t1
          have HBC : Hid (Below wr.heap.size wr w1) := hbc
          have hmc : (m : Int) ≤ (cap : Int) := by have := HG.out.2.2.1; rw [HL.out] at this; omega
          clear t0 t1 t2 hbc hmin
          go_wp2_with fail
          go_cut [8] (fun v wx => v = .int .i64 (cmpI l1 l2) ∧ Below w1.heap.size w1 wx)
          case first =>
            go_quiet (first | (go_at_call 35; refine Calls.quiet_of_same (cmpInt_any' _ _ _)))
            go_wp2_with fail
            go_meet
            case rel => exact ⟨rfl, below_drewN (Below.refl _ _) _⟩
          case rest =>
            obtain ⟨rfl, hbd⟩ := hcut
            obtain ⟨w2, hw2⟩ : ∃ w2, w2 = wc := ⟨_, rfl⟩
            subst hw2
            have HB2 : Hid (Below wr.heap.size wr w2) := HBC.out.trans (hbd.mono HBC.out.size)
            by_cases hll : l1 = l2
            · subst hll
              have hc0 : cmpI (l1 : Int) (l1 : Int) = 0 := cmpI_zero.2 rfl
              have HM4 : Hid (GInv w w2 k n s (.slice a1 len1 c1) k2 n2 s2 (.slice a2 len2 c2) LT EQ C met R (.slice (some ⟨g, 0, none⟩) m cap) rest) := by
                obtain ⟨g0, g1, g2, g3, g4, g5⟩ := HG.out
                have hI := HI.out
                have hb := HB2.out
                have hz := lt_of_row' hI.rt.rb
                have hrow := rowKept (w' := w2) (orow_pop g0 g1 g2 g3 g4 g5) (fun j hj => by
                  obtain rfl : g = j := by simpa [Value.ownBlock] using hj
                  exact hb.block g hgz)
                have hfew := HFEW.out
                have h4 : GInv w w2 k n s (.slice a1 len1 c1) k2 n2 s2 (.slice a2 len2 c2) LT EQ C met R (.slice (some ⟨g, 0, none⟩) rest.length cap) rest := ⟨hI.bel.trans (hb.mono hI.bel.size), (hb.block _ (by omega)).trans hI.lik, ⟨(hb.block _ (by omega)).trans hI.rt.ra, (hb.block _ (by omega)).trans hI.rt.rb⟩, hI.ok, HST.out.1 rfl, hrow, hI.work, by have := HL.out; omega⟩
                rw [HL.out] at h4
                exact h4
              rw [hc0]
              clear hbd t0' t1'
              go_wp2_with fail
              go_roundw
              case rel => exact ⟨_, _, _, _, HM4.out, rfl⟩
              case measure =>
                have h1 := (HMU.out _ _ _ ⟨_, _, _, HM4.out, rfl⟩).2
                have h2 := HWE.out
                have h3 := HWR.out
                rw [HL.out] at h1 h2 h3
                omega
            · obtain ⟨way, hway_⟩ : ∃ way, cmpI (l1 : Int) (l2 : Int) = way := ⟨_, rfl⟩
              have hw0 : way ≠ 0 := fun e => hll (by have := cmpI_zero.1 (hway_.trans e); omega)
              have HF : Hid (((way < 0 ↔ LT) ∧ (way = 0 ↔ EQ)) ∧ -1 ≤ way ∧ way ≤ 1) := by
                refine ⟨?_, by rw [← hway_]; exact cmpI_bd _ _⟩
                obtain ⟨z1, z2⟩ := HST.out.2 hll
                refine ⟨?_, ⟨fun e => absurd e hw0, fun e => absurd e z1⟩⟩
                rw [z2, ← hway_, cmpI_neg]
                omega
              have hbf : Below w.heap.size w w2 := HI.out.bel.trans (HB2.out.mono HI.out.bel.size)
              rw [hway_]
              clear hbd t0' t1'
              go_wp2_with fail
              go_ret
              exact ⟨way, rfl, HF, hbf⟩

end Go.Proofs.Ytbllnmafilabpaa

/- LessTerm and SameTerm at any two right terms. -/
namespace Go.Proofs.Ytbllnmafilabpaa
open Go.RowKit
set_option linter.unusedVariables false

theorem RootsOk.later {w w' : World} {k n : Int} {s : ByteArray} {la : Value} {k2 n2 : Int} {s2 : ByteArray} {lb : Value} {C : Nat} {LT EQ : Prop} (h : RootsOk w k n s la k2 n2 s2 lb C LT EQ) (hb : Below w.heap.size w w') : RootsOk w' k n s la k2 n2 s2 lb C LT EQ := by
  obtain ⟨d, ts, us, h1, h2, h3⟩ := h
  exact ⟨d, ts, us, h1.later hb, h2.later hb, h3⟩

theorem lessTerm_any (k n : Int) (s : ByteArray) (a1 : Option Addr) (len1 c1 : Nat) (k2 n2 : Int) (s2 : ByteArray) (a2 : Option Addr) (len2 c2 : Nat) (LT EQ : Prop) (C : Nat) (w : World) (hok : RootsOk w k n s (.slice a1 len1 c1) k2 n2 s2 (.slice a2 len2 c2) C LT EQ) (hc : C ≤ 300) :
    Calls Try.prog 13 #[.agg #[.int .i64 k, .int .i64 n, .string s, .slice a1 len1 c1], .agg #[.int .i64 k2, .int .i64 n2, .string s2, .slice a2 len2 c2]] w fun e w' => ∃ r : Bool, e = .returned (.bool r) ∧ Hid (r = true ↔ LT) ∧ Below w.heap.size w w' := by
  obtain ⟨W, hW⟩ : ∃ W, W = (w.alloc (.cells #[.int .i64 k, .int .i64 n, .string s, .slice a1 len1 c1] 26)).alloc (.cells #[.int .i64 k2, .int .i64 n2, .string s2, .slice a2 len2 c2] 26) := ⟨_, rfl⟩
  have hA : Below w.heap.size w W := by rw [hW]; exact ((Below.refl _ _).alloc (Nat.le_refl _) _).alloc (by simp) _
  have hC1 := orderOf_any k n s a1 len1 c1 k2 n2 s2 a2 len2 c2 LT EQ C w hok hc
  have hC := orderOf_any k n s a1 len1 c1 k2 n2 s2 a2 len2 c2 LT EQ C W (hok.later hA) hc
  clear hok hc
  rw [hW] at hC
  have HW : Hid (W = _) := hW
  clear hW
  go_enter Try.func13, Try.ntmps13
  go_wp2_with fail
  first
    | (refine hC1.mono ?_
       rintro e w1 ⟨r, rfl, hr, hb⟩
       go_wp2_with fail
       go_ret
       exact ⟨_, rfl, (by simpa using hr.out.1.1 : (_ = true ↔ LT)), hb⟩)
    | (refine hC.mono ?_
       rintro e w1 ⟨r, rfl, hr, hb⟩
       rw [← HW.out] at hb
       go_wp2_with fail
       go_ret
       exact ⟨_, rfl, (by simpa using hr.out.1.1 : (_ = true ↔ LT)), hA.trans (hb.mono hA.size)⟩)

theorem sameTerm_any (k n : Int) (s : ByteArray) (a1 : Option Addr) (len1 c1 : Nat) (k2 n2 : Int) (s2 : ByteArray) (a2 : Option Addr) (len2 c2 : Nat) (LT EQ : Prop) (C : Nat) (w : World) (hok : RootsOk w k n s (.slice a1 len1 c1) k2 n2 s2 (.slice a2 len2 c2) C LT EQ) (hc : C ≤ 300) :
    Calls Try.prog 11 #[.agg #[.int .i64 k, .int .i64 n, .string s, .slice a1 len1 c1], .agg #[.int .i64 k2, .int .i64 n2, .string s2, .slice a2 len2 c2]] w fun e w' => ∃ r : Bool, e = .returned (.bool r) ∧ Hid (r = true ↔ EQ) ∧ Below w.heap.size w w' := by
  obtain ⟨W, hW⟩ : ∃ W, W = (w.alloc (.cells #[.int .i64 k, .int .i64 n, .string s, .slice a1 len1 c1] 26)).alloc (.cells #[.int .i64 k2, .int .i64 n2, .string s2, .slice a2 len2 c2] 26) := ⟨_, rfl⟩
  have hA : Below w.heap.size w W := by rw [hW]; exact ((Below.refl _ _).alloc (Nat.le_refl _) _).alloc (by simp) _
  have hC1 := orderOf_any k n s a1 len1 c1 k2 n2 s2 a2 len2 c2 LT EQ C w hok hc
  have hC := orderOf_any k n s a1 len1 c1 k2 n2 s2 a2 len2 c2 LT EQ C W (hok.later hA) hc
  clear hok hc
  rw [hW] at hC
  have HW : Hid (W = _) := hW
  clear hW
  go_enter Try.func11, Try.ntmps11
  go_wp2_with fail
  first
    | (refine hC1.mono ?_
       rintro e w1 ⟨r, rfl, hr, hb⟩
       go_wp2_with fail
       go_ret
       exact ⟨_, rfl, (by simpa using hr.out.1.2 : (_ = true ↔ EQ)), hb⟩)
    | (refine hC.mono ?_
       rintro e w1 ⟨r, rfl, hr, hb⟩
       rw [← HW.out] at hb
       go_wp2_with fail
       go_ret
       exact ⟨_, rfl, (by simpa using hr.out.1.2 : (_ = true ↔ EQ)), hA.trans (hb.mono hA.size)⟩)

end Go.Proofs.Ytbllnmafilabpaa
