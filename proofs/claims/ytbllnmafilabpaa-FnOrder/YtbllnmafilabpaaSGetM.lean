/- The model's reading of a term: what is read of the bytes, in new memory. -/
import Derived.Test.YtbllnmafilabpaaIGet2M
import Derived.Test.YtbllnmafilabpaaNumM
import Derived.Test.YtbllnmafilabpaaIPutM
namespace Go.Proofs.Ytbllnmafilabpaa
open Go.RowKit
set_option linter.unusedVariables false

/-- What the model's reading of a term hands on. -/
def SPost (m : Nat) (w w' : World) (n : Nat) (zs : List Int) (at_ : Int) (v : Value) (q : Int) (ok : Bool) : Prop :=
  Below w.heap.size w w' ∧ (ok = true → ∃ (t : Tm m) (fp : List Nat), OwnT m w' v t fp ∧ Fresh w.heap.size w' fp ∧ WfT m t ∧ Came zs m at_ t q ∧ at_ < q ∧ q ≤ n) ∧ (ok = false → getT zs m at_ = none)

/-- Where the model's reading of a list stands behind j of them. -/
def SMidG (m : Nat) (w wr : World) (n : Nat) (zs : List Int) (k r : Int) (j : Nat) (at2 : Int) : Prop :=
  ∃ a l c, wr.heap[w.heap.size]? = some (.cells #[.int .i64 0, .int .i64 0, .string ⟨#[]⟩, .slice none 0 0] 26 (0, 0)) ∧ wr.heap[w.heap.size + 1]? = some (.cells #[.int .i64 k, .int .i64 0, .string ⟨#[]⟩, .slice a l c] 26 (0, 0)) ∧
    Below w.heap.size w wr ∧ ∃ (ts : List (Tm m)) (fp : List Nat), ts.length = j ∧ Made m (w.heap.size + 2) wr (.slice a l c) ts fp ∧ CameL zs m j r ts at2 ∧ r + j ≤ at2 ∧ at2 ≤ n

theorem made_row {m B : Nat} {w : World} {v : Value} {ts : List (Tm m)} {fp : List Nat} (h : Made m B w v ts fp) : ∃ cs, w.ownsRow B 26 4 v ts.length cs := by
  obtain ⟨cs, _, h, _⟩ := h
  exact ⟨cs, h⟩

theorem row_cs {w : World} {B n : Nat} {v : Value} {cs cs' : List Value} (r1 : w.ownsRow B 26 4 v n cs') (hcs : w.ownsRow B 26 4 v n cs) : cs' = cs := by
  rcases r1.2 with ⟨e1, e2⟩ | ⟨g1, c1, cur1, e1, _, e3, _, _, _, e7⟩
  · have l1 := r1.1
    have l2 := hcs.1
    rw [e2] at l1 l2
    rw [List.length_eq_zero_iff.1 (show cs'.length = 0 by omega), List.length_eq_zero_iff.1 (show cs.length = 0 by omega)]
  · rcases hcs.2 with ⟨d1, d2⟩ | ⟨g2, c2, cur2, d1, _, d3, _, _, _, d7⟩
    · rw [d1] at e1; cases e1
    · rw [d1] at e1
      simp only [Value.slice.injEq, Option.some.injEq, Addr.mk.injEq, and_true, true_and] at e1
      obtain ⟨rfl, rfl⟩ := e1
      rw [e3] at d3
      simp only [Option.some.injEq, Obj.cells.injEq, and_true] at d3
      subst d3
      rw [← e7, ← d7]

/-- One more of them. -/
theorem smid_step {m n : Nat} {zs : List Int} {k r at2 q2 : Int} {w wr w' V2 w2 : World} {j : Nat} {a : Option Addr} {l c : Nat} {ts : List (Tm m)} {fp : List Nat} {k2 x2 : Int} {s2 : ByteArray} {a2 : Option Addr} {l2 c2 : Nat} {cs : List Value} {av : Option Addr} {lv cv : Nat}
    (hz : w.heap.size + 2 ≤ wr.heap.size) (hR : wr.heap[w.heap.size]? = some (.cells #[.int .i64 0, .int .i64 0, .string ⟨#[]⟩, .slice none 0 0] 26 (0, 0))) (hT : wr.heap[w.heap.size + 1]? = some (.cells #[.int .i64 k, .int .i64 0, .string ⟨#[]⟩, .slice a l c] 26 (0, 0)))
    (hb : Below w.heap.size w wr) (hj : ts.length = j) (hj2 : j ≤ 1048576) (hM : Made m (w.heap.size + 2) wr (.slice a l c) ts fp) (hC : CameL zs m j r ts at2) (hq : r + j ≤ at2) (hrow : wr.ownsRow (w.heap.size + 2) 26 4 (.slice a l c) j cs)
    (hP : SPost m wr w' n zs at2 (.agg #[.int .i64 k2, .int .i64 x2, .string s2, .slice a2 l2 c2]) q2 true) (hV2 : Below w'.heap.size w' V2)
    (hown : w2.ownsRow (w.heap.size + 2) 26 4 (.slice av lv cv) (j + 1) (cs ++ [.int .i64 k2, .int .i64 x2, .string s2, .slice a2 l2 c2])) (hgr : V2.grownBy w2 (Value.slice a l c).ownBlock)
    (hat : (Value.slice av lv cv).ownBlock = (Value.slice a l c).ownBlock ∨ (Value.slice av lv cv).ownBlock = some V2.heap.size) : SMidG m w (w2.setCell ⟨w.heap.size + 1, 3, none⟩ (.slice av lv cv)) n zs k r (j + 1) q2 := by
  obtain ⟨p1, p2, _⟩ := hP
  obtain ⟨t, f, q1, g2, g3, g4, g5, g6⟩ := p2 rfl
  have z1 := p1.size
  have z2 := hV2.size
  have z3 := hgr.size
  have hob : ∀ g, (Value.slice a l c).ownBlock = some g → w.heap.size + 2 ≤ g := fun g hg => by
    rcases hrow.2 with ⟨e, _⟩ | ⟨g', c', cur, e1, e2, e3, _⟩
    · rw [e] at hg; cases hg
    · rw [e1] at hg
      obtain rfl : g' = g := by simpa [Value.ownBlock] using hg
      exact e2
  have hno : ∀ g, g < w.heap.size + 2 → some g ≠ (Value.slice a l c).ownBlock := fun g hg e => by have := hob g e.symm; omega
  have k1 : ∀ g, g < w.heap.size + 2 → w2.heap[g]? = wr.heap[g]? := fun g hg => (hgr.block g (by omega) (hno g hg)).trans ((hV2.block g (by omega)).trans (p1.block g (by omega)))
  have hT2 := (k1 (w.heap.size + 1) (by omega)).trans hT
  refine ⟨av, lv, cv, ?_, ?_, ?_, ?_⟩
  · rw [heap_setCell_other _ _ _ _ (by show w.heap.size ≠ w.heap.size + 1; omega)]
    exact (k1 _ (by omega)).trans hR
  · exact heap_setCell_same w2 _ 3 _ _ _ hT2
  · have : Below w.heap.size w w2 := ⟨hgr.os.trans (hV2.os.trans (p1.os.trans hb.os)), hgr.tape.trans (hV2.tape.trans (p1.tape.trans hb.tape)), hgr.output.trans (hV2.output.trans (p1.output.trans hb.output)), by omega, fun g hg => (k1 g (by omega)).trans (hb.block g hg)⟩
    exact this.setCell (by simp) _
  · cases m with
    | zero => exact False.elim q1
    | succ m =>
      obtain ⟨a', l', c', ev, q1⟩ := q1
      obtain ⟨cs', fps, r1, r2, r3, r4, r5, r6⟩ := hM
      subst hj
      obtain rfl := row_cs r1 hrow
      simp only [Value.agg.injEq] at ev
      have ev2 : ([.int .i64 k2, .int .i64 x2, .string s2, .slice a2 l2 c2] : List Value) = [.int .i64 t.K, .int .i64 t.N, .string t.S, .slice a' l' c'] := by simpa using congrArg Array.toList ev
      rw [ev2] at hown
      subst r3
      have kp : ∀ g, g < wr.heap.size → V2.heap[g]? = wr.heap[g]? := fun g hg => (hV2.block g (by omega)).trans (p1.block g hg)
      have hF : Fresh (w.heap.size + 2) V2 ((Value.slice a l c).ownBlock.toList ++ fps.flatten) := ⟨r4.1, fun g hg => ⟨(r4.2 g hg).1, by have := (r4.2 g hg).2; omega⟩⟩
      have hpn : ∀ g ∈ (Value.slice a l c).ownBlock.toList ++ fps.flatten, V2.heap[g]? = wr.heap[g]? := fun g hg => kp g (r4.2 g hg).2
      obtain ⟨fp', hm, _⟩ := made_step (w := V2) (t := t) (f := f) (rowKept r1 fun g hg => hpn g (List.mem_append_left _ (by rw [hg]; exact List.mem_singleton.2 rfl))) r2 hF r5 (r6.frame fun g hg => hpn g (List.mem_append_right _ hg))
        (q1.frame fun g hg => hV2.block g (g2.2 g hg).2) ⟨g2.1, fun g hg => ⟨by have := (g2.2 g hg).1; omega, by have := (g2.2 g hg).2; omega⟩⟩ (fun g hg hf => by have := (g2.2 g hg).1; have := (r4.2 g hf).2; omega) g3 (by omega) (by omega) hown hgr hat
      refine ⟨ts ++ [t], fp', by simp, hm.frame (fun g hg => ?_) (by simp), came_step hC g4, by omega, g6⟩
      obtain ⟨_, _, _, _, _, h4, _⟩ := hm
      exact heap_setCell_other _ _ _ _ (by have := (h4.2 g hg).1; show g ≠ w.heap.size + 1; omega)

/-- A list that was read, as a term of its kind. -/
theorem came_list {m : Nat} {zs : List Int} {at_ k q x r at2 : Int} {ts : List (Tm m)} (hk : ¬ k = 1 ∧ ¬ k = 3 ∧ ¬ k = 2) (h1 : getNum zs at_ = (k, q, true)) (h2 : getNum zs q = (x, r, true)) (hx : 0 ≤ x ∧ x ≤ 60) (h : CameL zs m x.toNat r ts at2) :
    Came zs (m + 1) at_ ((k, 0, ByteArray.empty, ts) : Int × Int × ByteArray × List (Tm m)) at2 := by
  unfold Came
  rw [getT_at h1]
  unfold getB
  rw [if_neg (by omega), if_neg hk.2.2, h2]
  by_cases h45 : k = 4 ∨ k = 5
  · rw [if_pos ⟨h45, rfl, hx.1, hx.2⟩]
    dsimp only
    rcases h with h | ⟨h, gn⟩
    · rw [h]; exact .inl rfl
    · rw [h]; exact .inr ⟨rfl, fun ho => gn ho.2⟩
  · rw [if_neg (fun hc => h45 hc.1)]
    refine .inr ⟨rfl, fun ho => ?_⟩
    have := shape_kind ho.1
    have : k = 1 ∨ k = 2 ∨ k = 3 ∨ k = 4 ∨ k = 5 := this
    omega

theorem none_list {m : Nat} {zs : List Int} {at_ k q x r : Int} (hk : ¬ k = 1 ∧ ¬ k = 3 ∧ ¬ k = 2) (h1 : getNum zs at_ = (k, q, true)) (h2 : getNum zs q = (x, r, true)) (h : getL (getT zs m) x.toNat r = none) : getT zs (m + 1) at_ = none := by
  rw [getT_at h1]
  unfold getB
  rw [if_neg (by omega), if_neg hk.2.2, h2]
  split
  · dsimp only; rw [h]; rfl
  · rfl

/-- What is handed out at the end of a list. -/
theorem spost_list {m n : Nat} {zs : List Int} {at_ k q x r at2 : Int} {w wr Z : World} {a : Option Addr} {l c : Nat} {ts : List (Tm m)} {fp : List Nat} (hk : ¬ k = 1 ∧ ¬ k = 3 ∧ ¬ k = 2) (hkb : I64 k) (h1 : getNum zs at_ = (k, q, true)) (h2 : getNum zs q = (x, r, true)) (hx : 0 ≤ x ∧ x ≤ 60) (hat : at_ < r) (hr : r ≤ at2) (hn : at2 ≤ n)
    (hb : Below w.heap.size w wr) (hM : Made m (w.heap.size + 2) wr (.slice a l c) ts fp) (h : CameL zs m x.toNat r ts at2) (hZ : Turned w.heap.size wr Z) : SPost (m + 1) w Z n zs at_ (.agg #[.int .i64 k, .int .i64 0, .string ByteArray.empty, .slice a l c]) at2 true := by
  obtain ⟨a', l', c', fp', e, q1, q2, q3⟩ := hM.own
  refine ⟨hb.trans (hZ.below (Nat.le_refl _) hb.size), fun _ => ⟨((k, 0, ByteArray.empty, ts) : Int × Int × ByteArray × List (Tm m)), fp', ⟨a, l, c, rfl, ?_⟩, ⟨q2.1, fun g hg => ⟨by have := (q2.2 g hg).1; omega, by have := (q2.2 g hg).2; have := hZ.size; omega⟩⟩, ⟨hkb, ⟨by show _ ≤ (0 : Int); omega, by show (0 : Int) ≤ _; omega⟩, Nat.zero_le _, q3⟩, came_list hk h1 h2 hx h, by omega, hn⟩, (fun e => Bool.noConfusion e)⟩
  exact q1.frame fun g hg => hZ.block g (q2.2 g hg).2 (by have := (q2.2 g hg).1; omega)

end Go.Proofs.Ytbllnmafilabpaa

/- The model's reading of a term, on: all kinds and storeys. -/
namespace Go.Proofs.Ytbllnmafilabpaa
open Go.RowKit
set_option linter.unusedVariables false

theorem spost_no {m n : Nat} {zs : List Int} {at_ q : Int} {w Z : World} {v : Value} (hb : Below w.heap.size w Z) (h : getT zs m at_ = none) : SPost m w Z n zs at_ v q false := ⟨hb, (fun e => Bool.noConfusion e), fun _ => h⟩

theorem spost_leaf {m n : Nat} {zs : List Int} {at_ at' k x : Int} {s : ByteArray} {w Z : World} (hb : Below w.heap.size w Z) (hk : I64 k) (hx : I64 x) (hs : s.size ≤ maxLen) (hlt : at_ < at') (hle : at' ≤ n)
    (h : getT zs (m + 1) at_ = some (((k, x, s, []) : Int × Int × ByteArray × List (Tm m)), at')) : SPost (m + 1) w Z n zs at_ (.agg #[.int .i64 k, .int .i64 x, .string s, .slice none 0 0]) at' true := by
  obtain ⟨a, l, c, fp, e, h1, h2, h3⟩ := (made_nil m w.heap.size Z).own
  exact ⟨hb, fun _ => ⟨((k, x, s, []) : Int × Int × ByteArray × List (Tm m)), fp, ⟨none, 0, 0, rfl, h1⟩, h2, ⟨hk, hx, hs, h3⟩, .inl h, hlt, hle⟩, (fun e => Bool.noConfusion e)⟩

theorem two_below (w : World) (o1 o2 : Obj) : Below w.heap.size w ((w.alloc o1).alloc o2) := ((Below.refl _ _).alloc (Nat.le_refl _) _).alloc (by simp) _
theorem set_below {w Z : World} (h : Below w.heap.size w Z) (g o : Nat) (v : Value) (hg : w.heap.size ≤ g) : Below w.heap.size w (Z.setCell ⟨g, o, none⟩ v) := h.setCell hg _

end Go.Proofs.Ytbllnmafilabpaa

/- What a draw of a term comes to: a term that is right, of few parts, in new memory; of what was there only the cursor is turned. -/
namespace Go.Proofs.Ytbllnmafilabpaa
open Go.RowKit
set_option linter.unusedVariables false

/-- A term that is right, and small: short texts, few in each, all storeys. -/
def SmT : (m : Nat) → Tm m → Prop
  | 0, _ => False
  | m + 1, t => Shape t.K t.N t.S t.L.length ∧ t.S.size ≤ 5 ∧ t.L.length ≤ 3 ∧ ∀ u ∈ t.L, SmT m u

/-- What a draw of a term hands on. -/
def DPost (m p : Nat) (a : Option Addr) (len cap : Nat) (w w' : World) (v : Value) : Prop :=
  Cur w' p a len cap ∧ w.grownBy w' (some p) ∧ ∃ (t : Tm m) (fp : List Nat), OwnT m w' v t fp ∧ Fresh w.heap.size w' fp ∧ WfT m t ∧ SmT m t

/-- The contract of a draw of a term. -/
def DrC (m : Nat) : Prop := ∀ (p len cap : Nat) (a : Option Addr) (zs : List Int) (w : World), Cur w p a len cap → IsRow .u8 w a len cap zs → (∀ x, a = some x → 0 < cap → x.block ≠ p) → len ≤ 4611686018427387904 →
  Calls Try.prog 24 #[.pointer (some ⟨p, 0, none⟩), .int .i64 m] w fun e w' => ∃ k x s av l c, e = .returned (.agg #[.int .i64 k, .int .i64 x, .string s, .slice av l c]) ∧ Hid (DPost (m + 1) p a len cap w w' (.agg #[.int .i64 k, .int .i64 x, .string s, .slice av l c]))

theorem ownL_nil (m : Nat) (w : World) : OwnL m w (.slice none 0 0) ([] : List (Tm m)) [] := by
  cases m with
  | zero => exact ⟨⟨_, _, rfl⟩, rfl⟩
  | succ m => exact .inl ⟨rfl, rfl, _, _, rfl⟩
theorem wfL_nil (m : Nat) : WfL m ([] : List (Tm m)) := by
  cases m with
  | zero => trivial
  | succ m => exact ⟨Nat.zero_le _, fun t h => by cases h⟩

theorem dpost_leaf {m p len cap : Nat} {a : Option Addr} {w Z : World} {k x : Int} {s : ByteArray} (hc : Cur Z p a len cap) (hg : w.grownBy Z (some p)) (hs : Shape k x s 0) (h5 : s.size ≤ 5) (hk : 1 ≤ k ∧ k ≤ 3) (hx : -1000000000000 ≤ x ∧ x ≤ 1000000000000) :
    DPost (m + 1) p a len cap w Z (.agg #[.int .i64 k, .int .i64 x, .string s, .slice none 0 0]) :=
  ⟨hc, hg, (k, x, s, []), [], ⟨none, 0, 0, rfl, ownL_nil m Z⟩, ⟨List.nodup_nil, fun g h => by cases h⟩, ⟨⟨by show -9223372036854775808 ≤ k; omega, by show k ≤ 9223372036854775807; omega⟩, ⟨by show -9223372036854775808 ≤ x; omega, by show x ≤ 9223372036854775807; omega⟩, by show s.size ≤ maxLen; unfold maxLen; omega, wfL_nil m⟩, hs, h5, Nat.zero_le _, fun u h => by cases h⟩

def tmA : List ByteArray := [⟨#[111, 107]⟩, ⟨#[115, 116, 111, 112]⟩, ⟨#[97]⟩, ⟨#[116, 114, 117, 101]⟩, ⟨#[97, 100, 100]⟩]
theorem tmA_ok : ∀ x ∈ tmA, Shape 2 0 x 0 ∧ x.size ≤ 5 := by
  intro x hx
  have h1 : ∀ x ∈ tmA, 1 ≤ x.size ∧ x.size ≤ 5 ∧ ∀ i : Fin x.size, decide (97 ≤ (x[i].toNat : Int) ∧ (x[i].toNat : Int) ≤ 122) = true := by
    unfold tmA; simp only [List.forall_mem_cons, List.not_mem_nil, false_implies, implies_true, and_true]; decide
  obtain ⟨g1, g2, g3⟩ := h1 x hx
  exact ⟨(shape2 _ _ _).2 ⟨⟨fun i h => .inl (by have := g3 ⟨i, h⟩; rw [decide_eq_true_eq] at this; exact this), g1, by omega⟩, rfl, rfl⟩, g2⟩
def tmN (y : Int) : List Int := [0, 1, 2, -1, 7, 1000000000000, -1000000000000, y]
theorem tmN_ok (y : Int) (h0 : 0 ≤ y) (h1 : y < 1000) : ∀ x ∈ tmN y, -1000000000000 ≤ x ∧ x ≤ 1000000000000 := by
  intro x hx
  simp only [tmN, List.mem_cons, List.not_mem_nil, or_false] at hx
  omega

/-- Where a draw of a list of terms stands behind j of them. -/
def DMid (m p : Nat) (a : Option Addr) (len cap : Nat) (w wr : World) (T : Nat) (k : Int) (j : Nat) : Prop :=
  ∃ av l c, wr.heap[w.heap.size]? = some (.cells #[.int .i64 0, .int .i64 0, .string ⟨#[]⟩, .slice none 0 0] 26 (0, 0)) ∧ wr.heap[T]? = some (.cells #[.int .i64 k, .int .i64 0, .string ⟨#[]⟩, .slice av l c] 26 (0, 0)) ∧
    Cur wr p a len cap ∧ w.grownBy wr (some p) ∧ ∃ (ts : List (Tm m)) (fp : List Nat), ts.length = j ∧ Made m (T + 1) wr (.slice av l c) ts fp ∧ ∀ u ∈ ts, SmT m u

theorem dmid_step {m p len cap T : Nat} {al : Option Addr} {k : Int} {w wr w' V2 w2 : World} {j : Nat} {a : Option Addr} {l c : Nat} {ts : List (Tm m)} {fp : List Nat} {k2 x2 : Int} {s2 : ByteArray} {a2 : Option Addr} {l2 c2 : Nat} {cs : List Value} {av : Option Addr} {lv cv : Nat}
    (hp : p < w.heap.size) (hT0 : w.heap.size < T) (hz : T < wr.heap.size) (hR : wr.heap[w.heap.size]? = some (.cells #[.int .i64 0, .int .i64 0, .string ⟨#[]⟩, .slice none 0 0] 26 (0, 0))) (hT : wr.heap[T]? = some (.cells #[.int .i64 k, .int .i64 0, .string ⟨#[]⟩, .slice a l c] 26 (0, 0)))
    (hb : w.grownBy wr (some p)) (hj : ts.length = j) (hj2 : j ≤ 1048576) (hM : Made m (T + 1) wr (.slice a l c) ts fp) (hsm : ∀ u ∈ ts, SmT m u) (hrow : wr.ownsRow (T + 1) 26 4 (.slice a l c) j cs)
    (hP : DPost m p al len cap wr w' (.agg #[.int .i64 k2, .int .i64 x2, .string s2, .slice a2 l2 c2])) (hV2 : Below w'.heap.size w' V2)
    (hown : w2.ownsRow (T + 1) 26 4 (.slice av lv cv) (j + 1) (cs ++ [.int .i64 k2, .int .i64 x2, .string s2, .slice a2 l2 c2])) (hgr : V2.grownBy w2 (Value.slice a l c).ownBlock)
    (hat : (Value.slice av lv cv).ownBlock = (Value.slice a l c).ownBlock ∨ (Value.slice av lv cv).ownBlock = some V2.heap.size) : DMid m p al len cap w (w2.setCell ⟨T, 3, none⟩ (.slice av lv cv)) T k (j + 1) := by
  obtain ⟨hc', p1, t, f, q1, g2, g3, g4⟩ := hP
  have z1 := p1.size
  have z2 := hV2.size
  have z3 := hgr.size
  have hcl := hc'.lt
  have hob : ∀ g, (Value.slice a l c).ownBlock = some g → T + 1 ≤ g := fun g hg => by
    rcases hrow.2 with ⟨e, _⟩ | ⟨g', c', cur, e1, e2, e3, _⟩
    · rw [e] at hg; cases hg
    · rw [e1] at hg
      obtain rfl : g' = g := by simpa [Value.ownBlock] using hg
      exact e2
  have hno : ∀ g, g < T + 1 → some g ≠ (Value.slice a l c).ownBlock := fun g hg e => by have := hob g e.symm; omega
  have k1 : ∀ g, g < T + 1 → g ≠ p → w2.heap[g]? = wr.heap[g]? := fun g hg hne => (hgr.block g (by omega) (hno g hg)).trans ((hV2.block g (by omega)).trans (p1.block g (by omega) (by simpa using hne)))
  have hT2 := (k1 T (by omega) (by omega)).trans hT
  have hcw2 : Cur w2 p al len cap := hc'.same ((hgr.block p (by omega) (hno p (by omega))).trans (hV2.block p hcl))
  refine ⟨av, lv, cv, ?_, ?_, cur_set hcw2 (by omega), ?_, ?_⟩
  · rw [heap_setCell_other _ _ _ _ (by show w.heap.size ≠ T; omega)]
    exact (k1 _ (by omega) (by omega)).trans hR
  · exact heap_setCell_same w2 _ 3 _ _ _ hT2
  · have : w.grownBy w2 (some p) := ⟨hgr.os.trans (hV2.os.trans (p1.os.trans hb.os)), hgr.tape.trans (hV2.tape.trans (p1.tape.trans hb.tape)), hgr.output.trans (hV2.output.trans (p1.output.trans hb.output)), by have := hb.size; omega, fun g hg hne => (k1 g (by omega) (by simpa using hne)).trans (hb.block g hg hne)⟩
    exact grown_set this (by omega)
  · cases m with
    | zero => exact False.elim q1
    | succ m =>
      obtain ⟨a', l', c', ev, q1⟩ := q1
      obtain ⟨cs', fps, r1, r2, r3, r4, r5, r6⟩ := hM
      subst hj
      obtain rfl := row_cs r1 hrow
      simp only [Value.agg.injEq] at ev
      have ev2 : ([.int .i64 k2, .int .i64 x2, .string s2, .slice a2 l2 c2] : List Value) = [.int .i64 t.K, .int .i64 t.N, .string t.S, .slice a' l' c'] := by simpa using congrArg Array.toList ev
      rw [ev2] at hown
      subst r3
      have kp : ∀ g, g < wr.heap.size → g ≠ p → V2.heap[g]? = wr.heap[g]? := fun g hg hne => (hV2.block g (by omega)).trans (p1.block g hg (by simpa using hne))
      have hF : Fresh (T + 1) V2 ((Value.slice a l c).ownBlock.toList ++ fps.flatten) := ⟨r4.1, fun g hg => ⟨(r4.2 g hg).1, by have := (r4.2 g hg).2; omega⟩⟩
      have hpn : ∀ g ∈ (Value.slice a l c).ownBlock.toList ++ fps.flatten, V2.heap[g]? = wr.heap[g]? := fun g hg => kp g (r4.2 g hg).2 (by have := (r4.2 g hg).1; omega)
      obtain ⟨fp', hm, _⟩ := made_step (w := V2) (t := t) (f := f) (rowKept r1 fun g hg => hpn g (List.mem_append_left _ (by rw [hg]; exact List.mem_singleton.2 rfl))) r2 hF r5 (r6.frame fun g hg => hpn g (List.mem_append_right _ hg))
        (q1.frame fun g hg => hV2.block g (g2.2 g hg).2) ⟨g2.1, fun g hg => ⟨by have := (g2.2 g hg).1; omega, by have := (g2.2 g hg).2; omega⟩⟩ (fun g hg hf => by have := (g2.2 g hg).1; have := (r4.2 g hf).2; omega) g3 (by omega) (by omega) hown hgr hat
      refine ⟨ts ++ [t], fp', by simp, hm.frame (fun g hg => ?_) (by simp), fun u hu => ?_⟩
      · obtain ⟨_, _, _, _, _, h4, _⟩ := hm
        exact heap_setCell_other _ _ _ _ (by have := (h4.2 g hg).1; show g ≠ T; omega)
      · rcases List.mem_append.1 hu with h | h
        · exact hsm u h
        · obtain rfl := List.mem_singleton.1 h
          exact g4

theorem dmid_aft {m p len cap T : Nat} {al : Option Addr} {zs : List Int} {k : Int} {w wr w' : World} {j : Nat} {a : Option Addr} {l c : Nat} {ts : List (Tm m)} {fp : List Nat} {k2 x2 : Int} {s2 : ByteArray} {a2 : Option Addr} {l2 c2 : Nat} {cs : List Value}
    (hp : p < w.heap.size) (hT0 : w.heap.size < T) (hz : T < wr.heap.size) (hR : wr.heap[w.heap.size]? = some (.cells #[.int .i64 0, .int .i64 0, .string ⟨#[]⟩, .slice none 0 0] 26 (0, 0))) (hT : wr.heap[T]? = some (.cells #[.int .i64 k, .int .i64 0, .string ⟨#[]⟩, .slice a l c] 26 (0, 0)))
    (hb : w.grownBy wr (some p)) (hj : ts.length = j) (hj2 : j ≤ 1048576) (hM : Made m (T + 1) wr (.slice a l c) ts fp) (hsm : ∀ u ∈ ts, SmT m u) (hrow : wr.ownsRow (T + 1) 26 4 (.slice a l c) j cs)
    (hir : IsRow .u8 w al len cap zs) (hne : ∀ x, al = some x → 0 < cap → x.block ≠ p) (hP : DPost m p al len cap wr w' (.agg #[.int .i64 k2, .int .i64 x2, .string s2, .slice a2 l2 c2])) :
    w'.cell? ⟨T, 3, none⟩ = some (.slice a l c) ∧ T < w'.heap.size ∧ w'.ownsRow (T + 1) 26 4 (.slice a l c) j cs ∧
    Hid (∀ (w2 : World) (av : Option Addr) (lv cv : Nat), w2.ownsRow (T + 1) 26 4 (.slice av lv cv) (j + 1) (cs ++ [.int .i64 k2, .int .i64 x2, .string s2, .slice a2 l2 c2]) → (w'.alloc (.cells #[.int .i64 k2, .int .i64 x2, .string s2, .slice a2 l2 c2] 26)).grownBy w2 (Value.slice a l c).ownBlock →
      ((Value.slice av lv cv).ownBlock = (Value.slice a l c).ownBlock ∨ (Value.slice av lv cv).ownBlock = some (w'.alloc (.cells #[.int .i64 k2, .int .i64 x2, .string s2, .slice a2 l2 c2] 26)).heap.size) →
      w2.cell? ⟨T, 3, none⟩ = some (.slice a l c) ∧ w2.frozen? ⟨T, 3, none⟩ = false ∧ Hid (DMid m p al len cap w (w2.setCell ⟨T, 3, none⟩ (.slice av lv cv)) T k (j + 1)) ∧ Hid (IsRow .u8 (w2.setCell ⟨T, 3, none⟩ (.slice av lv cv)) al len cap zs)) := by
  have hgw := hP.2.1
  have hT' := (hgw.block _ hz (by simp; omega)).trans hT
  have hTz' : T < w'.heap.size := lt_of_row' hT'
  have hob : ∀ g, (Value.slice a l c).ownBlock = some g → T + 1 ≤ g := fun g hg => by
    rcases hrow.2 with ⟨e, _⟩ | ⟨g', c', cur, e1, e2, e3, _⟩
    · rw [e] at hg; cases hg
    · rw [e1] at hg
      obtain rfl : g' = g := by simpa [Value.ownBlock] using hg
      exact e2
  have hA1 : Below w'.heap.size w' (w'.alloc (.cells #[.int .i64 k2, .int .i64 x2, .string s2, .slice a2 l2 c2] 26)) := (Below.refl _ _).alloc (Nat.le_refl _) _
  refine ⟨by rw [cell_of_row w' _ 3 _ _ _ hT']; rfl, hTz', rowKept hrow fun g hg => ?_, fun w2 av lv cv g1 g2 g3 => ?_⟩
  · rcases hrow.2 with ⟨e, _⟩ | ⟨g', c', cur, e1, e2, e3, _⟩
    · rw [e] at hg; cases hg
    · rw [e1] at hg
      obtain rfl : g' = g := by simpa [Value.ownBlock] using hg
      exact hgw.block g' (lt_of_row' e3) (by simp; omega)
  · have hT2 := (g2.block T (by simp; omega) (fun e => by have := hob _ e.symm; omega)).trans ((hA1.block _ hTz').trans hT')
    have hD := dmid_step hp hT0 hz hR hT hb hj hj2 hM hsm hrow hP hA1 g1 g2 g3
    refine ⟨by rw [cell_of_row w2 _ 3 _ _ _ hT2]; rfl, frozen_of_row w2 _ 3 _ _ hT2, hD, ?_⟩
    obtain ⟨_, _, _, _, _, _, h, _⟩ := hD
    exact hir.grown h hne

end Go.Proofs.Ytbllnmafilabpaa

/- The model's reading of a term, on: its kinds. -/
namespace Go.Proofs.Ytbllnmafilabpaa
open Go.RowKit
set_option linter.unusedVariables false

end Go.Proofs.Ytbllnmafilabpaa

/- The model's GetTerm: the term that has these bytes and is right, or none. -/
namespace Go.Proofs.Ytbllnmafilabpaa
open Go.RowKit
set_option linter.unusedVariables false

end Go.Proofs.Ytbllnmafilabpaa

/- What the law on GetTerm holds in hand. -/
namespace Go.Proofs.Ytbllnmafilabpaa
open Go.RowKit
set_option linter.unusedVariables false

/-- What the bytes come to as a term. -/
def GA (zs : List Int) (n : Nat) (k x : Int) (s : ByteArray) (ts : List (Tm 7)) (ok : Bool) : Prop :=
  (ok = true ∧ getT zs 8 0 = some (((k, x, s, ts) : Int × Int × ByteArray × List (Tm 7)), (n : Int)) ∧ Right 7 k x s ts 8 300) ∨
  (ok = false ∧ k = 0 ∧ x = 0 ∧ s = ByteArray.empty ∧ ts = [] ∧ ¬ ∃ t : Tm 8, getT zs 8 0 = some (t, (n : Int)) ∧ Right 7 t.K t.N t.S t.L 8 300)

theorem GA.same {zs : List Int} {n : Nat} {k x k' x' : Int} {s s' : ByteArray} {ts ts' : List (Tm 7)} {ok ok' : Bool} (h : GA zs n k x s ts ok) (h' : GA zs n k' x' s' ts' ok') : k = k' ∧ x = x' ∧ s = s' ∧ ts = ts' ∧ ok = ok' := by
  rcases h with ⟨rfl, h1, h2⟩ | ⟨rfl, rfl, rfl, rfl, rfl, h1⟩
  · rcases h' with ⟨rfl, g1, g2⟩ | ⟨rfl, rfl, rfl, rfl, rfl, g1⟩
    · rw [h1] at g1
      have e : ((k, x, s, ts) : Int × Int × ByteArray × List (Tm 7)) = (k', x', s', ts') := congrArg Prod.fst (Option.some.inj g1)
      exact ⟨congrArg (fun t => t.1) e, congrArg (fun t => t.2.1) e, congrArg (fun t => t.2.2.1) e, congrArg (fun t => t.2.2.2) e, rfl⟩
    · exact absurd ⟨_, h1, h2⟩ g1
  · rcases h' with ⟨rfl, g1, g2⟩ | ⟨rfl, rfl, rfl, rfl, rfl, g1⟩
    · exact absurd ⟨_, g1, g2⟩ h1
    · exact ⟨rfl, rfl, rfl, rfl, rfl⟩

theorem GA.cnt {zs : List Int} {n : Nat} {k x : Int} {s : ByteArray} {ts : List (Tm 7)} {ok : Bool} (h : GA zs n k x s ts ok) : cntL 7 ts ≤ 300 := by
  rcases h with ⟨_, _, h⟩ | ⟨_, _, _, _, rfl, _⟩
  · have := h.2.2.2; omega
  · exact Nat.zero_le _

theorem own_none (w : World) : OwnL 7 w (.slice none 0 0) ([] : List (Tm 7)) [] := by
  obtain ⟨a, l, c, fp, e, h, f, _⟩ := (made_nil 7 w.heap.size w).own
  have : fp = [] := by
    cases fp with
    | nil => rfl
    | cons g r => have := f.2 g (List.mem_cons_self ..); omega
  rw [this] at h
  exact h

theorem wf_nil : WfL 7 ([] : List (Tm 7)) := by
  obtain ⟨a, l, c, fp, e, h, f, g⟩ := (made_nil 7 0 default).own
  exact g

/-- What GetTerm hands back, the same for both ends. -/
theorem gpost_own {zs : List Int} {n : Nat} {w w' : World} {k x : Int} {s : ByteArray} {a : Option Addr} {l c : Nat} {ok : Bool} (h : GPost zs n w w' k x s a l c ok) :
    ∃ (ts : List (Tm 7)) (fp : List Nat), OwnL 7 w' (.slice a l c) ts fp ∧ Fresh w.heap.size w' fp ∧ WfL 7 ts ∧ GA zs n k x s ts ok ∧ Below w.heap.size w w' := by
  obtain ⟨h1, h2, h3⟩ := h
  cases ok
  · obtain ⟨rfl, rfl, rfl, rfl, rfl, rfl, hn⟩ := h3 rfl
    exact ⟨[], [], own_none w', ⟨List.nodup_nil, fun g hg => absurd hg (by simp)⟩, wf_nil, .inr ⟨rfl, rfl, rfl, rfl, rfl, hn⟩, h1⟩
  · obtain ⟨ts, fp, q1, q2, q3, _, _, _, q4, q5⟩ := h2 rfl
    exact ⟨ts, fp, q1, q2, q3, .inl ⟨rfl, q4, q5⟩, h1⟩

/-- What the law holds in hand: the model's answer, the program's, and the terms of both. -/
structure SG (w Z : World) (iw ig : Nat) (k x : Int) (s : ByteArray) (aw : Option Addr) (lw cw : Nat) (ag : Option Addr) (lg cg : Nat) (ts tg : List (Tm 7)) (fw fg : List Nat) : Prop where
  w0 : Z.heap[iw]? = some (.cells #[.int .i64 k, .int .i64 x, .string s, .slice aw lw cw] 26 (0, 0))
  g0 : Z.heap[ig]? = some (.cells #[.int .i64 k, .int .i64 x, .string s, .slice ag lg cg] 26 (0, 0))
  b : Below w.heap.size w Z
  oW : OwnL 7 Z (.slice aw lw cw) ts fw
  oG : OwnL 7 Z (.slice ag lg cg) tg fg

theorem SG.later {w Z Z' : World} {iw ig : Nat} {k x : Int} {s : ByteArray} {aw : Option Addr} {lw cw : Nat} {ag : Option Addr} {lg cg : Nat} {ts tg : List (Tm 7)} {fw fg : List Nat} (h : SG w Z iw ig k x s aw lw cw ag lg cg ts tg fw fg) (hb : Below Z.heap.size Z Z') : SG w Z' iw ig k x s aw lw cw ag lg cg ts tg fw fg :=
  ⟨(hb.block _ (lt_of_row h.w0)).trans h.w0, (hb.block _ (lt_of_row h.g0)).trans h.g0, h.b.trans (hb.mono h.b.size), h.oW.frame fun g hg => hb.block g (h.oW.lt g hg), h.oG.frame fun g hg => hb.block g (h.oG.lt g hg)⟩

theorem SG.grown {w Z Z' : World} {iw ig : Nat} {k x : Int} {s : ByteArray} {aw : Option Addr} {lw cw : Nat} {ag : Option Addr} {lg cg : Nat} {ts tg : List (Tm 7)} {fw fg : List Nat} {bx : Nat} (h : SG w Z iw ig k x s aw lw cw ag lg cg ts tg fw fg) (hb : Z.grownBy Z' (some bx)) (hw : iw ≠ bx) (hg : ig ≠ bx) (hbw : w.heap.size ≤ bx) (h1 : ∀ g ∈ fw, g ≠ bx) (h2 : ∀ g ∈ fg, g ≠ bx) : SG w Z' iw ig k x s aw lw cw ag lg cg ts tg fw fg :=
  ⟨(hb.block _ (lt_of_row h.w0) (fun e => hw (Option.some.inj e))).trans h.w0, (hb.block _ (lt_of_row h.g0) (fun e => hg (Option.some.inj e))).trans h.g0,
   h.b.trans ⟨hb.os, hb.tape, hb.output, hb.size, fun g hg => hb.block g (Nat.lt_of_lt_of_le hg h.b.size) (fun e => by have := Option.some.inj e; omega)⟩,
   h.oW.frame fun g hg => hb.block g (h.oW.lt g hg) (fun e => h1 g hg (Option.some.inj e)), h.oG.frame fun g hg => hb.block g (h.oG.lt g hg) (fun e => h2 g hg (Option.some.inj e))⟩

theorem SG.wrote {w Z Z' : World} {iw ig : Nat} {k x : Int} {s : ByteArray} {aw : Option Addr} {lw cw : Nat} {ag : Option Addr} {lg cg : Nat} {ts tg tg' : List (Tm 7)} {fw fg : List Nat} (h : SG w Z iw ig k x s aw lw cw ag lg cg ts tg fw fg) (hb : Wrote fg Z Z') (hw : iw ∉ fg) (hg : ig ∉ fg) (hbw : ∀ g ∈ fg, w.heap.size ≤ g) (h1 : ∀ g ∈ fw, g ∉ fg) (ho : OwnL 7 Z' (.slice ag lg cg) tg' fg) : SG w Z' iw ig k x s aw lw cw ag lg cg ts tg' fw fg :=
  ⟨(hb.block _ (lt_of_row h.w0) hw).trans h.w0, (hb.block _ (lt_of_row h.g0) hg).trans h.g0,
   h.b.trans ⟨hb.os, hb.tape, hb.output, hb.size, fun g hg => hb.block g (Nat.lt_of_lt_of_le hg h.b.size) (fun e => by have := hbw g e; omega)⟩,
   h.oW.frame fun g hg => hb.block g (h.oW.lt g hg) (h1 g hg), ho⟩

end Go.Proofs.Ytbllnmafilabpaa
