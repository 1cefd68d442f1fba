/- The program's samePats: what is told of the lists that are still to be held against each other. -/
import Derived.Test.YtahmbnokjfkfiaaSvP2
import Derived.Test.YtahmbnokjfkfiaaSc4
namespace Go.Proofs.Ytahmbnokjfkfiaa
open Go.RowKit
set_option linter.unusedVariables false

theorem sum_leG {α : Type} {f g : α → Nat} {c : Nat} (h : ∀ x, f x ≤ c + 8 * g x) (hc : c ≤ 8) (xs : List α) : (xs.map f).sum ≤ 8 * szRow g xs := by
  unfold szRow
  induction xs with
  | nil => exact Nat.zero_le _
  | cons x xs ih => simp only [List.map_cons, List.sum_cons, List.length_cons]; have := h x; omega
/-- How much work a pattern is. -/
def wkP : (d : Nat) → Tm d → Nat
  | 0, _ => 4
  | d + 1, e => 4 + (e.L.map (wkP d)).sum
theorem wkP_le : ∀ (d : Nat) (e : Tm d), wkP d e ≤ 4 + 8 * szPatD d e := by
  intro d
  induction d with
  | zero => intro e; exact Nat.le_add_right _ _
  | succ d ih =>
    intro e
    have h1 := sum_leG (f := wkP d) (g := szPatD d) ih (by omega) e.L
    show 4 + (e.L.map (wkP d)).sum ≤ 4 + 8 * (e.S.size + szRow (szPatD d) e.L)
    omega

/-- Two lists as long as each other. -/
def TG (W : World) (fr : Tg) (rem : List Nat) (R : Nat) (Q : Prop) : Prop :=
  ∃ (d : Nat) (xs ys : List (Tm d)) (f f' : List Nat), OwnRow 4 59 (PatO d) W fr.1 xs f ∧ OwnRow 4 59 (PatO d) W fr.2 ys f' ∧ xs.length = ys.length ∧ szRow (szPatD d) xs ≤ 1048576 ∧ szRow (szPatD d) ys ≤ 1048576 ∧ rem = f.tail ++ f'.tail ∧ R = 1 + (xs.map (wkP d)).sum ∧ (Q ↔ xs = ys)

def TSG (W : World) : List Tg → List Nat → Nat → Prop → Prop
  | [], rem, R, Q => rem = [] ∧ R = 0 ∧ Q
  | fr :: rest, rem, R, Q => ∃ r1 R1 Q1 r2 R2 Q2, TG W fr r1 R1 Q1 ∧ TSG W rest r2 R2 Q2 ∧ rem = r1 ++ r2 ∧ R = R1 + R2 ∧ (Q ↔ Q1 ∧ Q2)

theorem TG.pos {W : World} {fr : Tg} {rem : List Nat} {R : Nat} {Q : Prop} (h : TG W fr rem R Q) : 0 < R := by
  obtain ⟨d, xs, ys, f, f', _, _, _, _, _, _, h, _⟩ := h
  omega
theorem TSG.few {W : World} : ∀ {fs : List Tg} {rem : List Nat} {R : Nat} {Q : Prop}, TSG W fs rem R Q → fs.length ≤ R
  | [], _, _, _, _ => Nat.zero_le _
  | fr :: rest, rem, R, Q, ⟨r1, R1, Q1, r2, R2, Q2, h1, h2, h3, h4, h5⟩ => by
    have := h2.few
    have := h1.pos
    simp only [List.length_cons]
    omega

/-- What is told: blocks that are left (of what is in hand: ext, and of what is to come), work that is left (E in hand, R to come). -/
def LgG (W : World) (p met nu : Nat) (f : Addr → Int → Option Value) (fs : List Tg) (ext : List Nat) (E R : Nat) (Q : Prop) : Prop :=
  ∃ rs, TSG W fs rs R Q ∧ nu ≤ 2 * met ∧ met + (R + E) ≤ 16777216 ∧ (∀ g, (ext ++ rs).count g ≤ 1) ∧ (∀ g ∈ ext ++ rs, g < W.heap.size ∧ g ≠ p) ∧ (∀ x n v, f x n = some v → x.block ∉ ext ++ rs)

/-- Less in hand. -/
theorem LgG.less {W : World} {p met nu : Nat} {f : Addr → Int → Option Value} {fs : List Tg} {ext ext' : List Nat} {E E' R : Nat} {Q : Prop} (h : LgG W p met nu f fs ext E R Q) (hE : E' ≤ E) (hc : ∀ g, ext'.count g ≤ ext.count g) : LgG W p met nu f fs ext' E' R Q := by
  obtain ⟨rs, h1, h2, h3, h4, h5, h6⟩ := h
  have hm : ∀ g, g ∈ ext' ++ rs → g ∈ ext ++ rs := fun g hg => by
    rcases List.mem_append.1 hg with hg | hg
    · have := List.count_pos_iff.2 hg
      exact List.mem_append_left _ (List.count_pos_iff.1 (by have := hc g; omega))
    · exact List.mem_append_right _ hg
  refine ⟨rs, h1, h2, by omega, fun g => ?_, fun g hg => h5 g (hm g hg), fun x n v hv hx => h6 x n v hv (hm _ hx)⟩
  have q1 := h4 g
  have q2 := hc g
  rw [List.count_append] at q1 ⊢
  omega

/-- Two lists in hand are never met before, and are put to what is to come. -/
theorem LgG.fresh {W : World} {p met nu : Nat} {f : Addr → Int → Option Value} {fs : List Tg} {ext t u : List Nat} {ga gb E R : Nat} {Q : Prop} (h : LgG W p met nu f fs ((ga :: t) ++ (gb :: u) ++ ext) E R Q) : ga ≠ p ∧ gb ≠ p ∧ ga ≠ gb ∧ (∀ n, f ⟨ga, 0, none⟩ n = none) ∧ (∀ n, f ⟨gb, 0, none⟩ n = none) ∧ met ≤ 16777216 ∧ nu ≤ 2 * met := by
  obtain ⟨rs, h1, h2, h3, h4, h5, h6⟩ := h
  have ma : ga ∈ (ga :: t) ++ (gb :: u) ++ ext ++ rs := by simp
  have mb : gb ∈ (ga :: t) ++ (gb :: u) ++ ext ++ rs := by simp
  refine ⟨(h5 ga ma).2, (h5 gb mb).2, fun e => ?_, fun n => ?_, fun n => ?_, by omega, h2⟩
  · have q := h4 ga
    subst e
    simp only [List.count_append, List.count_cons_self] at q
    omega
  · cases hv : f ⟨ga, 0, none⟩ n with
    | none => rfl
    | some v => exact absurd ma (h6 _ n v hv)
  · cases hv : f ⟨gb, 0, none⟩ n with
    | none => rfl
    | some v => exact absurd mb (h6 _ n v hv)

theorem LgG.push {W : World} {p met nu nu' : Nat} {f f' : Addr → Int → Option Value} {fs : List Tg} {fr : Tg} {ext t u : List Nat} {ga gb E E' R Rf : Nat} {Q Qf : Prop} (h : LgG W p met nu f fs ((ga :: t) ++ (gb :: u) ++ ext) E R Q) (hT : TG W fr (t ++ u) Rf Qf) (hE : E' + Rf + 1 ≤ E) (hnu : nu' ≤ 2 * (met + 1)) (hf : ∀ x n v, f' x n = some v → f x n = some v ∨ x.block = ga ∨ x.block = gb) : LgG W p (met + 1) nu' f' (fr :: fs) ext E' (Rf + R) (Qf ∧ Q) := by
  obtain ⟨rs, h1, h2, h3, h4, h5, h6⟩ := h
  have hc : ∀ g, (ext ++ (t ++ u ++ rs)).count g + (if ga = g then 1 else 0) + (if gb = g then 1 else 0) = ((ga :: t) ++ (gb :: u) ++ ext ++ rs).count g := fun g => by
    simp only [List.count_append, List.count_cons, beq_iff_eq]
    omega
  have hm : ∀ g, g ∈ ext ++ (t ++ u ++ rs) → g ∈ (ga :: t) ++ (gb :: u) ++ ext ++ rs := fun g hg => by
    have q1 := List.count_pos_iff.2 hg
    have q2 := hc g
    exact List.count_pos_iff.1 (by omega)
  have hno : ∀ g, g ∈ ext ++ (t ++ u ++ rs) → ga ≠ g ∧ gb ≠ g := fun g hg => by
    have q1 := List.count_pos_iff.2 hg
    have q2 := hc g
    have q3 := h4 g
    constructor
    · intro e; rw [if_pos e] at q2; omega
    · intro e; rw [if_pos e] at q2; omega
  refine ⟨t ++ u ++ rs, ⟨_, _, _, _, _, _, hT, h1, rfl, rfl, Iff.rfl⟩, hnu, by omega, fun g => by have := hc g; have := h4 g; omega, fun g hg => h5 g (hm g hg), fun x n v hv hx => ?_⟩
  rcases hf x n v hv with q | q | q
  · exact h6 x n v q (hm _ hx)
  · exact (hno _ hx).1 q.symm
  · exact (hno _ hx).2 q.symm

theorem LgG.few {W : World} {p met nu : Nat} {f : Addr → Int → Option Value} {fs : List Tg} {ext : List Nat} {E R : Nat} {Q : Prop} (h : LgG W p met nu f fs ext E R Q) : fs.length ≤ 16777216 := by
  obtain ⟨rs, h1, h2, h3, _⟩ := h
  have := h1.few
  omega

theorem LgG.pop {W : World} {p met nu : Nat} {f : Addr → Int → Option Value} {fs : List Tg} {fr : Tg} {R : Nat} {Q : Prop} (h : LgG W p met nu f (fr :: fs) [] 0 R Q) : ∃ rem R1 Q1 R2 Q2, TG W fr rem R1 Q1 ∧ LgG W p met nu f fs rem (R1 - 1) R2 Q2 ∧ R = R1 + R2 ∧ (Q ↔ Q1 ∧ Q2) := by
  obtain ⟨rs, ⟨r1, R1, Q1, r2, R2, Q2, h1, h1', rfl, rfl, h1q⟩, h2, h3, h4, h5, h6⟩ := h
  have := h1.pos
  exact ⟨r1, R1, Q1, R2, Q2, h1, ⟨r2, h1', h2, by omega, fun g => by simpa using h4 g, fun g hg => h5 g (by simpa using hg), fun x n v hv => by simpa using h6 x n v hv⟩, rfl, h1q⟩

/-- A row, element by element, whether it is empty or not. -/
theorem own_each {α : Type} {k : Nat} {T : TypeId} {O : World → List Value → α → List Nat → Prop} {W : World} {v : Value} {xs : List α} {f : List Nat} (h : OwnRow k T O W v xs f) : ∃ a c fps, v = .slice a xs.length c ∧ f.tail = List.flatten fps ∧ ∀ (i : Nat) (x : α), xs[i]? = some x → ∃ g cur vs fx, a = some ⟨g, 0, none⟩ ∧ W.heap[g]? = some (.cells cur T (0, 0)) ∧ fps[i]? = some fx ∧ vs.length = k ∧ (∀ (j : Nat) (u : Value), vs[j]? = some u → cur[i * k + j]? = some u) ∧ O W vs x fx := by
  rcases h with ⟨e0, e1, a, c, e⟩ | ⟨g, c, cur, fps, q1, q2, q3, q4, q5⟩
  · subst e0 e1
    exact ⟨a, c, [], by rw [e]; rfl, rfl, fun i x hx => by simp at hx⟩
  · refine ⟨_, c, fps, q1, by rw [q4]; rfl, fun i x hx => ?_⟩
    obtain ⟨vs, fx, e1, e2, e3, e4⟩ := q5 i x hx
    exact ⟨g, cur, vs, fx, rfl, q2, e1, e2, e3, e4⟩

theorem Try.infoTwoP : (Try.prog.info? 89).map (fun i => (i.zero, i.size, i.bytes)) = some (some (.agg #[.slice none 0 0, .slice none 0 0]), 2, 48) := by kernel_rfl

theorem two_cells (w : World) (a b : Value) (t : TypeId) : ∀ j u, [a, b][j]? = some u → (w.alloc (.cells #[a, b] t)).cell? ((⟨w.heap.size, 0, none⟩ : Addr).add j) = some u := by
  intro j u hj
  match j, hj with
  | 0, hj => simp at hj; subst hj; simp [Addr.add]
  | 1, hj => simp at hj; subst hj; simp [Addr.add]

theorem own_sliceG {w : World} {B e z n : Nat} {v : Value} {xs : List Value} (h : w.ownsRow B e z v n xs) : ∃ a l c, v = .slice a l c := by
  rcases h.2 with ⟨e, _⟩ | ⟨g, c, cur, e, _⟩
  · exact ⟨_, _, _, e⟩
  · exact ⟨_, _, _, e⟩

theorem least_workG (p : Value → World → Nat → Prop) : ∃ μ : Value → World → Nat, ∀ a c n, p a c n → p a c (μ a c) ∧ μ a c ≤ n := by
  have hmin : ∀ {q : Nat → Prop}, (∃ n, q n) → ∃ m, q m ∧ ∀ n, q n → m ≤ n := fun {q} ⟨n, hn⟩ => by
    induction n using Nat.strongRecOn with
    | ind n ih =>
      by_cases h : ∃ m, m < n ∧ q m
      · obtain ⟨m, h1, h2⟩ := h
        exact ih m h1 h2
      · exact ⟨n, hn, fun m hm => Nat.le_of_not_lt fun hl => h ⟨m, hl, hm⟩⟩
  have h : ∀ x : Value × World, ∃ m, ∀ n, p x.1 x.2 n → p x.1 x.2 m ∧ m ≤ n := fun x => by
    by_cases hx : ∃ n, p x.1 x.2 n
    · obtain ⟨m, h1, h2⟩ := hmin hx
      exact ⟨m, fun n hn => ⟨h1, h2 n hn⟩⟩
    · exact ⟨0, fun n hn => absurd ⟨n, hn⟩ hx⟩
  obtain ⟨g, hg⟩ := Classical.axiomOfChoice h
  exact ⟨fun a c => g (a, c), fun a c n hn => hg (a, c) n hn⟩

/-- How the outer loop stands. -/
def OI (W : World) (p : Nat) (EQ : Prop) (tv : Value) (wr : World) (R : Nat) : Prop :=
  ∃ met nu pv uv f fs Q, Sv 87 89 W wr p met nu pv uv tv f fs [] ∧ LgG W p met nu f fs [] 0 R Q ∧ (Q ↔ EQ)

/-- How the inner one stands at the j-th. -/
def PsAt (d : Nat) (W : World) (p : Nat) (xs ys : List (Tm d)) (fps gps : List (List Nat)) (R : Nat) (Q : Prop) (K : List (Nat × Obj)) (j : Nat) (tv : Value) (w : World) : Prop :=
  ∃ met nu pv uv f fs R' Q', Sv 87 89 W w p met nu pv uv tv f fs K ∧ LgG W p met nu f fs ((fps.drop j).flatten ++ (gps.drop j).flatten) (((xs.drop j).map (wkP d)).sum) R' Q' ∧ R' + ((xs.drop j).map (wkP d)).sum ≤ R + (xs.map (wkP d)).sum ∧ (Q' ↔ xs.take j = ys.take j ∧ Q)

/-- One step of it where nothing is put to what is to come. -/
theorem PsAt.skip {d : Nat} {W : World} {p : Nat} {xs ys : List (Tm d)} {fps gps : List (List Nat)} {R : Nat} {Q : Prop} {K : List (Nat × Obj)} {j : Nat} {tv : Value} {w w' : World} (h : PsAt d W p xs ys fps gps R Q K j tv w) {x y : Tm d} {fx fy : List Nat} (hx : xs[j]? = some x) (hy : ys[j]? = some y) (e1 : fps[j]? = some fx) (e2 : gps[j]? = some fy) (hxy : x = y) (hb : Below w.heap.size w w') : PsAt d W p xs ys fps gps R Q K (j + 1) tv w' := by
  obtain ⟨met, nu, pv, uv, f, fs, R', Q', hS, hL, hR, hQ⟩ := h
  have hd := drop_sumG (f := wkP d) hx
  refine ⟨met, nu, pv, uv, f, fs, R', Q', hS.later hb, hL.less (by rw [hd]; exact Nat.le_add_left _ _) (fun g => by rw [drop_flatG e1, drop_flatG e2]; simp only [List.count_append]; omega), by omega, ?_⟩
  rw [hQ]
  constructor
  · rintro ⟨q2, q3⟩; exact ⟨take_sameW hx hy q2 hxy, q3⟩
  · rintro ⟨q1, q3⟩
    refine ⟨?_, q3⟩
    have := congrArg (List.take j) q1
    rwa [List.take_take, List.take_take, Nat.min_eq_left (by omega)] at this

end Go.Proofs.Ytahmbnokjfkfiaa
