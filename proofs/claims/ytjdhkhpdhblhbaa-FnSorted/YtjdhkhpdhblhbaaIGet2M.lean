/- The program's reading of a term, on: its kinds. -/
import Derived.Test.YtjdhkhpdhblhbaaIGetM
import Derived.Test.YtjdhkhpdhblhbaaIPutM
import Derived.Test.YtjdhkhpdhblhbaaNumM
namespace Go.Proofs.Ytjdhkhpdhblhbaa
open Go.RowKit
set_option linter.unusedVariables false

theorem scan_lt (zs : List Int) (a : Nat) : ∀ f k, (scan zs a f k).2.2 = true → (a : Int) < (scan zs a f k).2.1 := by
  intro f
  induction f with
  | zero => intro k h; simp [scan] at h
  | succ f ih =>
    intro k h
    rw [scan] at h ⊢
    split at h
    · rename_i h1
      rw [if_pos h1]
      split at h
      · rename_i h2
        rw [if_pos h2]
        exact ih _ h
      · rename_i h2
        rw [if_neg h2]
        split at h
        · simp at h
        · rename_i h3
          rw [if_neg h3]
          show (a : Int) < ((a + k + 1 : Nat) : Int)
          omega
    · simp at h

theorem getNum_lt (zs : List Int) (p : Int) (h : (getNum zs p).2.2 = true) : p < (getNum zs p).2.1 ∧ (getNum zs p).2.1 ≤ zs.length ∧ -1000000000000 ≤ (getNum zs p).1 ∧ (getNum zs p).1 ≤ 1000000000000 := by
  refine ⟨?_, ((getNum_bd zs p).1 h).2, (getNum_bd zs p).2.1, (getNum_bd zs p).2.2⟩
  unfold getNum at h ⊢
  split at h
  · rename_i h1
    rw [if_pos h1]
    unfold fin at h ⊢
    split at h
    · rename_i h2
      rw [if_pos h2]
      have := scan_lt zs p.toNat 6 0 h2.1
      show p < (scan zs p.toNat 6 0).2.1
      omega
    · simp at h
  · simp at h

theorem getText_lt (zs : List Int) (p : Int) (h : (getText zs p).2.2 = true) : p < (getText zs p).2.1 ∧ (getText zs p).2.1 ≤ zs.length ∧ (getText zs p).1.length ≤ zs.length := by
  unfold getText at h ⊢
  split at h
  · rename_i h1
    rw [if_pos h1]
    have := getNum_lt zs p h1.1
    refine ⟨?_, ?_, ?_⟩
    · show p < (getNum zs p).2.1 + (getNum zs p).1; omega
    · show (getNum zs p).2.1 + (getNum zs p).1 ≤ zs.length; omega
    · show ((zs.drop _).take _).length ≤ _; rw [List.length_take, List.length_drop]; omega
  · simp at h

end Go.Proofs.Ytjdhkhpdhblhbaa

/- The program's reading of a term, on: what it is within. -/
namespace Go.Proofs.Ytjdhkhpdhblhbaa
open Go.RowKit
set_option linter.unusedVariables false

theorem getT_at {m : Nat} {zs : List Int} {at_ k q : Int} (h : getNum zs at_ = (k, q, true)) : getT zs (m + 1) at_ = getB zs (getT zs m) k q := by
  show (if (getNum zs at_).2.2 = true then getB zs (getT zs m) (getNum zs at_).1 (getNum zs at_).2.1 else none) = _
  rw [h]; rfl
theorem getT_no {m : Nat} {zs : List Int} {at_ : Int} (h : ¬ (getNum zs at_).2.2 = true) : getT zs (m + 1) at_ = none := by
  show (if (getNum zs at_).2.2 = true then _ else none) = _
  rw [if_neg h]
  rfl

end Go.Proofs.Ytjdhkhpdhblhbaa

/- The program's reading of a term, on: all storeys. -/
namespace Go.Proofs.Ytjdhkhpdhblhbaa
open Go.RowKit
set_option linter.unusedVariables false

theorem ownT_frame {m : Nat} {w w' : World} {v : Value} {t : Tm m} {fp : List Nat} (h : OwnT m w v t fp) (hh : ∀ g ∈ fp, w'.heap[g]? = w.heap[g]?) : OwnT m w' v t fp := by
  cases m with
  | zero => exact h
  | succ m =>
    obtain ⟨a, l, c, e, h⟩ := h
    exact ⟨a, l, c, e, h.frame hh⟩

end Go.Proofs.Ytjdhkhpdhblhbaa

/- The program's reading of a term, on: its parts. -/
namespace Go.Proofs.Ytjdhkhpdhblhbaa
open Go.RowKit
set_option linter.unusedVariables false

theorem four_new (w : World) (a b c d : Value) (t : TypeId) : ∀ j u, [a, b, c, d][j]? = some u → (w.alloc (.cells #[a, b, c, d] t)).cell? ((⟨w.heap.size, 0, none⟩ : Addr).add j) = some u := by
  intro j u hj
  match j, hj with
  | 0, hj => simp at hj; subst hj; simp [Addr.add]
  | 1, hj => simp at hj; subst hj; simp [Addr.add]
  | 2, hj => simp at hj; subst hj; simp [Addr.add]
  | 3, hj => simp at hj; subst hj; simp [Addr.add]

theorem lt_of_row' {w : World} {g : Nat} {o : Obj} (h : w.heap[g]? = some o) : g < w.heap.size := Nat.lt_of_not_le fun hn => by rw [Array.getElem?_eq_none hn] at h; cases h

theorem row_slice {w : World} {B e z n : Nat} {v : Value} {xs : List Value} (h : w.ownsRow B e z v n xs) : ∃ a l c, v = .slice a l c := by
  rcases h.2 with ⟨e, _⟩ | ⟨g, c, cur, e1, _⟩
  · exact ⟨_, _, _, e⟩
  · exact ⟨_, _, _, e1⟩

end Go.Proofs.Ytjdhkhpdhblhbaa

/- The program's GetTerm: the term that has these bytes and is right, or none. -/
namespace Go.Proofs.Ytjdhkhpdhblhbaa
open Go.RowKit
set_option linter.unusedVariables false

/-- What GetTerm hands back. -/
def GPost (zs : List Int) (n : Nat) (w w' : World) (k x : Int) (s : ByteArray) (a : Option Addr) (l c : Nat) (ok : Bool) : Prop :=
  Below w.heap.size w w' ∧
  (ok = true → ∃ (ts : List (Tm 7)) (fp : List Nat), OwnL 7 w' (.slice a l c) ts fp ∧ Fresh w.heap.size w' fp ∧ WfL 7 ts ∧ I64 k ∧ I64 x ∧ s.size ≤ maxLen ∧ getT zs 8 0 = some (((k, x, s, ts) : Int × Int × ByteArray × List (Tm 7)), (n : Int)) ∧ Right 7 k x s ts 8 300) ∧
  (ok = false → k = 0 ∧ x = 0 ∧ s = ByteArray.empty ∧ a = none ∧ l = 0 ∧ c = 0 ∧ ¬ ∃ t : Tm 8, getT zs 8 0 = some (t, (n : Int)) ∧ Right 7 t.K t.N t.S t.L 8 300)

theorem gpost_no {zs : List Int} {n R : Nat} {w w3 Z : World} (h : Below w.heap.size w w3) (hR : w.heap.size ≤ R) (hZ : Turned R w3 Z) (hn : ¬ ∃ t : Tm 8, getT zs 8 0 = some (t, (n : Int)) ∧ Right 7 t.K t.N t.S t.L 8 300) : GPost zs n w Z 0 0 ByteArray.empty none 0 0 false :=
  ⟨h.trans (hZ.below hR h.size), (fun e => Bool.noConfusion e), fun _ => ⟨rfl, rfl, rfl, rfl, rfl, rfl, hn⟩⟩

theorem turned_below {p : Nat} {w V w1 : World} (hV : Below w.heap.size w V) (hT : Turned p V w1) (hp : w.heap.size ≤ p) : Below w.heap.size w w1 := hV.trans (hT.below hp hV.size)

end Go.Proofs.Ytjdhkhpdhblhbaa

/- The model's reading of a term: what is read of the bytes, in new memory. -/
namespace Go.Proofs.Ytjdhkhpdhblhbaa
open Go.RowKit
set_option linter.unusedVariables false

/-- What the model's reading of a term hands on. -/
def SPost (m : Nat) (w w' : World) (n : Nat) (zs : List Int) (at_ : Int) (v : Value) (q : Int) (ok : Bool) : Prop :=
  Below w.heap.size w w' ∧ (ok = true → ∃ (t : Tm m) (fp : List Nat), OwnT m w' v t fp ∧ Fresh w.heap.size w' fp ∧ WfT m t ∧ Came zs m at_ t q ∧ at_ < q ∧ q ≤ n) ∧ (ok = false → getT zs m at_ = none)

/-- Where the model's reading of a list stands behind j of them. -/
def SMidG (m : Nat) (w wr : World) (n : Nat) (zs : List Int) (k r : Int) (j : Nat) (at2 : Int) : Prop :=
  ∃ a l c, wr.heap[w.heap.size]? = some (.cells #[.int .i64 0, .int .i64 0, .string ⟨#[]⟩, .slice none 0 0] 29 (0, 0)) ∧ wr.heap[w.heap.size + 1]? = some (.cells #[.int .i64 k, .int .i64 0, .string ⟨#[]⟩, .slice a l c] 29 (0, 0)) ∧
    Below w.heap.size w wr ∧ ∃ (ts : List (Tm m)) (fp : List Nat), ts.length = j ∧ Made m (w.heap.size + 2) wr (.slice a l c) ts fp ∧ CameL zs m j r ts at2 ∧ r + j ≤ at2 ∧ at2 ≤ n

theorem made_row {m B : Nat} {w : World} {v : Value} {ts : List (Tm m)} {fp : List Nat} (h : Made m B w v ts fp) : ∃ cs, w.ownsRow B 29 4 v ts.length cs := by
  obtain ⟨cs, _, h, _⟩ := h
  exact ⟨cs, h⟩

theorem row_cs {w : World} {B n : Nat} {v : Value} {cs cs' : List Value} (r1 : w.ownsRow B 29 4 v n cs') (hcs : w.ownsRow B 29 4 v n cs) : cs' = cs := by
  rcases r1.2 with ⟨e1, e2⟩ | ⟨g1, c1, cur1, e1, _, e3, _, _, _, e7⟩
  · have l1 := r1.1
    have l2 := hcs.1
    rw [e2] at l1 l2
    rw [List.length_eq_zero_iff.1 (show cs'.length = 0 by omega), List.length_eq_zero_iff.1 (show cs.length = 0 by omega)]
  · rcases hcs.2 with ⟨d1, d2⟩ | ⟨g2, c2, cur2, d1, _, d3, _, _, _, d7⟩
    · rw [d1] at e1; cases e1
    · rw [d1] at e1
      simp only [Value.slice.injEq, Option.some.injEq, Addr.mk.injEq, and_true, true_and] at e1
      obtain ⟨rfl, rfl⟩ := e1
      rw [e3] at d3
      simp only [Option.some.injEq, Obj.cells.injEq, and_true] at d3
      subst d3
      rw [← e7, ← d7]

/-- One more of them. -/
theorem smid_step {m n : Nat} {zs : List Int} {k r at2 q2 : Int} {w wr w' V2 w2 : World} {j : Nat} {a : Option Addr} {l c : Nat} {ts : List (Tm m)} {fp : List Nat} {k2 x2 : Int} {s2 : ByteArray} {a2 : Option Addr} {l2 c2 : Nat} {cs : List Value} {av : Option Addr} {lv cv : Nat}
    (hz : w.heap.size + 2 ≤ wr.heap.size) (hR : wr.heap[w.heap.size]? = some (.cells #[.int .i64 0, .int .i64 0, .string ⟨#[]⟩, .slice none 0 0] 29 (0, 0))) (hT : wr.heap[w.heap.size + 1]? = some (.cells #[.int .i64 k, .int .i64 0, .string ⟨#[]⟩, .slice a l c] 29 (0, 0)))
    (hb : Below w.heap.size w wr) (hj : ts.length = j) (hj2 : j ≤ 1048576) (hM : Made m (w.heap.size + 2) wr (.slice a l c) ts fp) (hC : CameL zs m j r ts at2) (hq : r + j ≤ at2) (hrow : wr.ownsRow (w.heap.size + 2) 29 4 (.slice a l c) j cs)
    (hP : SPost m wr w' n zs at2 (.agg #[.int .i64 k2, .int .i64 x2, .string s2, .slice a2 l2 c2]) q2 true) (hV2 : Below w'.heap.size w' V2)
    (hown : w2.ownsRow (w.heap.size + 2) 29 4 (.slice av lv cv) (j + 1) (cs ++ [.int .i64 k2, .int .i64 x2, .string s2, .slice a2 l2 c2])) (hgr : V2.grownBy w2 (Value.slice a l c).ownBlock)
    (hat : (Value.slice av lv cv).ownBlock = (Value.slice a l c).ownBlock ∨ (Value.slice av lv cv).ownBlock = some V2.heap.size) : SMidG m w (w2.setCell ⟨w.heap.size + 1, 3, none⟩ (.slice av lv cv)) n zs k r (j + 1) q2 := by
  obtain ⟨p1, p2, _⟩ := hP
  obtain ⟨t, f, q1, g2, g3, g4, g5, g6⟩ := p2 rfl
  have z1 := p1.size
  have z2 := hV2.size
  have z3 := hgr.size
  have hob : ∀ g, (Value.slice a l c).ownBlock = some g → w.heap.size + 2 ≤ g := fun g hg => by
    rcases hrow.2 with ⟨e, _⟩ | ⟨g', c', cur, e1, e2, e3, _⟩
    · rw [e] at hg; cases hg
    · rw [e1] at hg
      obtain rfl : g' = g := by simpa [Value.ownBlock] using hg
      exact e2
  have hno : ∀ g, g < w.heap.size + 2 → some g ≠ (Value.slice a l c).ownBlock := fun g hg e => by have := hob g e.symm; omega
  have k1 : ∀ g, g < w.heap.size + 2 → w2.heap[g]? = wr.heap[g]? := fun g hg => (hgr.block g (by omega) (hno g hg)).trans ((hV2.block g (by omega)).trans (p1.block g (by omega)))
  have hT2 := (k1 (w.heap.size + 1) (by omega)).trans hT
  refine ⟨av, lv, cv, ?_, ?_, ?_, ?_⟩
  · rw [heap_setCell_other _ _ _ _ (by show w.heap.size ≠ w.heap.size + 1; omega)]
    exact (k1 _ (by omega)).trans hR
  · exact heap_setCell_same w2 _ 3 _ _ _ hT2
  · have : Below w.heap.size w w2 := ⟨hgr.os.trans (hV2.os.trans (p1.os.trans hb.os)), hgr.tape.trans (hV2.tape.trans (p1.tape.trans hb.tape)), hgr.output.trans (hV2.output.trans (p1.output.trans hb.output)), by omega, fun g hg => (k1 g (by omega)).trans (hb.block g hg)⟩
    exact this.setCell (by simp) _
  · cases m with
    | zero => exact False.elim q1
    | succ m =>
      obtain ⟨a', l', c', ev, q1⟩ := q1
      obtain ⟨cs', fps, r1, r2, r3, r4, r5, r6⟩ := hM
      subst hj
      obtain rfl := row_cs r1 hrow
      simp only [Value.agg.injEq] at ev
      have ev2 : ([.int .i64 k2, .int .i64 x2, .string s2, .slice a2 l2 c2] : List Value) = [.int .i64 t.K, .int .i64 t.N, .string t.S, .slice a' l' c'] := by simpa using congrArg Array.toList ev
      rw [ev2] at hown
      subst r3
      have kp : ∀ g, g < wr.heap.size → V2.heap[g]? = wr.heap[g]? := fun g hg => (hV2.block g (by omega)).trans (p1.block g hg)
      have hF : Fresh (w.heap.size + 2) V2 ((Value.slice a l c).ownBlock.toList ++ fps.flatten) := ⟨r4.1, fun g hg => ⟨(r4.2 g hg).1, by have := (r4.2 g hg).2; omega⟩⟩
      have hpn : ∀ g ∈ (Value.slice a l c).ownBlock.toList ++ fps.flatten, V2.heap[g]? = wr.heap[g]? := fun g hg => kp g (r4.2 g hg).2
      obtain ⟨fp', hm, _⟩ := made_step (w := V2) (t := t) (f := f) (rowKept r1 fun g hg => hpn g (List.mem_append_left _ (by rw [hg]; exact List.mem_singleton.2 rfl))) r2 hF r5 (r6.frame fun g hg => hpn g (List.mem_append_right _ hg))
        (q1.frame fun g hg => hV2.block g (g2.2 g hg).2) ⟨g2.1, fun g hg => ⟨by have := (g2.2 g hg).1; omega, by have := (g2.2 g hg).2; omega⟩⟩ (fun g hg hf => by have := (g2.2 g hg).1; have := (r4.2 g hf).2; omega) g3 (by omega) (by omega) hown hgr hat
      refine ⟨ts ++ [t], fp', by simp, hm.frame (fun g hg => ?_) (by simp), came_step hC g4, by omega, g6⟩
      obtain ⟨_, _, _, _, _, h4, _⟩ := hm
      exact heap_setCell_other _ _ _ _ (by have := (h4.2 g hg).1; show g ≠ w.heap.size + 1; omega)

/-- A list that was read, as a term of its kind. -/
theorem came_list {m : Nat} {zs : List Int} {at_ k q x r at2 : Int} {ts : List (Tm m)} (hk : ¬ k = 1 ∧ ¬ k = 3 ∧ ¬ k = 2) (h1 : getNum zs at_ = (k, q, true)) (h2 : getNum zs q = (x, r, true)) (hx : 0 ≤ x ∧ x ≤ 60) (h : CameL zs m x.toNat r ts at2) :
    Came zs (m + 1) at_ ((k, 0, ByteArray.empty, ts) : Int × Int × ByteArray × List (Tm m)) at2 := by
  unfold Came
  rw [getT_at h1]
  unfold getB
  rw [if_neg (by omega), if_neg hk.2.2, h2]
  by_cases h45 : k = 4 ∨ k = 5
  · rw [if_pos ⟨h45, rfl, hx.1, hx.2⟩]
    dsimp only
    rcases h with h | ⟨h, gn⟩
    · rw [h]; exact .inl rfl
    · rw [h]; exact .inr ⟨rfl, fun ho => gn ho.2⟩
  · rw [if_neg (fun hc => h45 hc.1)]
    refine .inr ⟨rfl, fun ho => ?_⟩
    have := shape_kind ho.1
    have : k = 1 ∨ k = 2 ∨ k = 3 ∨ k = 4 ∨ k = 5 := this
    omega

theorem none_list {m : Nat} {zs : List Int} {at_ k q x r : Int} (hk : ¬ k = 1 ∧ ¬ k = 3 ∧ ¬ k = 2) (h1 : getNum zs at_ = (k, q, true)) (h2 : getNum zs q = (x, r, true)) (h : getL (getT zs m) x.toNat r = none) : getT zs (m + 1) at_ = none := by
  rw [getT_at h1]
  unfold getB
  rw [if_neg (by omega), if_neg hk.2.2, h2]
  split
  · dsimp only; rw [h]; rfl
  · rfl

/-- What is handed out at the end of a list. -/
theorem spost_list {m n : Nat} {zs : List Int} {at_ k q x r at2 : Int} {w wr Z : World} {a : Option Addr} {l c : Nat} {ts : List (Tm m)} {fp : List Nat} (hk : ¬ k = 1 ∧ ¬ k = 3 ∧ ¬ k = 2) (hkb : I64 k) (h1 : getNum zs at_ = (k, q, true)) (h2 : getNum zs q = (x, r, true)) (hx : 0 ≤ x ∧ x ≤ 60) (hat : at_ < r) (hr : r ≤ at2) (hn : at2 ≤ n)
    (hb : Below w.heap.size w wr) (hM : Made m (w.heap.size + 2) wr (.slice a l c) ts fp) (h : CameL zs m x.toNat r ts at2) (hZ : Turned w.heap.size wr Z) : SPost (m + 1) w Z n zs at_ (.agg #[.int .i64 k, .int .i64 0, .string ByteArray.empty, .slice a l c]) at2 true := by
  obtain ⟨a', l', c', fp', e, q1, q2, q3⟩ := hM.own
  refine ⟨hb.trans (hZ.below (Nat.le_refl _) hb.size), fun _ => ⟨((k, 0, ByteArray.empty, ts) : Int × Int × ByteArray × List (Tm m)), fp', ⟨a, l, c, rfl, ?_⟩, ⟨q2.1, fun g hg => ⟨by have := (q2.2 g hg).1; omega, by have := (q2.2 g hg).2; have := hZ.size; omega⟩⟩, ⟨hkb, ⟨by show _ ≤ (0 : Int); omega, by show (0 : Int) ≤ _; omega⟩, Nat.zero_le _, q3⟩, came_list hk h1 h2 hx h, by omega, hn⟩, (fun e => Bool.noConfusion e)⟩
  exact q1.frame fun g hg => hZ.block g (q2.2 g hg).2 (by have := (q2.2 g hg).1; omega)

end Go.Proofs.Ytjdhkhpdhblhbaa

/- The model's reading of a term, on: all kinds and storeys. -/
namespace Go.Proofs.Ytjdhkhpdhblhbaa
open Go.RowKit
set_option linter.unusedVariables false

theorem spost_no {m n : Nat} {zs : List Int} {at_ q : Int} {w Z : World} {v : Value} (hb : Below w.heap.size w Z) (h : getT zs m at_ = none) : SPost m w Z n zs at_ v q false := ⟨hb, (fun e => Bool.noConfusion e), fun _ => h⟩

theorem spost_leaf {m n : Nat} {zs : List Int} {at_ at' k x : Int} {s : ByteArray} {w Z : World} (hb : Below w.heap.size w Z) (hk : I64 k) (hx : I64 x) (hs : s.size ≤ maxLen) (hlt : at_ < at') (hle : at' ≤ n)
    (h : getT zs (m + 1) at_ = some (((k, x, s, []) : Int × Int × ByteArray × List (Tm m)), at')) : SPost (m + 1) w Z n zs at_ (.agg #[.int .i64 k, .int .i64 x, .string s, .slice none 0 0]) at' true := by
  obtain ⟨a, l, c, fp, e, h1, h2, h3⟩ := (made_nil m w.heap.size Z).own
  exact ⟨hb, fun _ => ⟨((k, x, s, []) : Int × Int × ByteArray × List (Tm m)), fp, ⟨none, 0, 0, rfl, h1⟩, h2, ⟨hk, hx, hs, h3⟩, .inl h, hlt, hle⟩, (fun e => Bool.noConfusion e)⟩

theorem two_below (w : World) (o1 o2 : Obj) : Below w.heap.size w ((w.alloc o1).alloc o2) := ((Below.refl _ _).alloc (Nat.le_refl _) _).alloc (by simp) _
theorem set_below {w Z : World} (h : Below w.heap.size w Z) (g o : Nat) (v : Value) (hg : w.heap.size ≤ g) : Below w.heap.size w (Z.setCell ⟨g, o, none⟩ v) := h.setCell hg _

end Go.Proofs.Ytjdhkhpdhblhbaa

/- What a draw of a term comes to: a term that is right, of few parts, in new memory; of what was there only the cursor is turned. -/
namespace Go.Proofs.Ytjdhkhpdhblhbaa
open Go.RowKit
set_option linter.unusedVariables false

/-- A term that is right, and small: short texts, few in each, all storeys. -/
def SmT : (m : Nat) → Tm m → Prop
  | 0, _ => False
  | m + 1, t => Shape t.K t.N t.S t.L.length ∧ t.S.size ≤ 5 ∧ t.L.length ≤ 3 ∧ ∀ u ∈ t.L, SmT m u

/-- What a draw of a term hands on. -/
def DPost (m p : Nat) (a : Option Addr) (len cap : Nat) (w w' : World) (v : Value) : Prop :=
  Cur w' p a len cap ∧ w.grownBy w' (some p) ∧ ∃ (t : Tm m) (fp : List Nat), OwnT m w' v t fp ∧ Fresh w.heap.size w' fp ∧ WfT m t ∧ SmT m t

/-- The contract of a draw of a term. -/
def DrC (m : Nat) : Prop := ∀ (p len cap : Nat) (a : Option Addr) (zs : List Int) (w : World), Cur w p a len cap → IsRow .u8 w a len cap zs → (∀ x, a = some x → 0 < cap → x.block ≠ p) → len ≤ 4611686018427387904 →
  Calls Try.prog 51 #[.pointer (some ⟨p, 0, none⟩), .int .i64 m] w fun e w' => ∃ k x s av l c, e = .returned (.agg #[.int .i64 k, .int .i64 x, .string s, .slice av l c]) ∧ Hid (DPost (m + 1) p a len cap w w' (.agg #[.int .i64 k, .int .i64 x, .string s, .slice av l c]))

theorem ownL_nil (m : Nat) (w : World) : OwnL m w (.slice none 0 0) ([] : List (Tm m)) [] := by
  cases m with
  | zero => exact ⟨⟨_, _, rfl⟩, rfl⟩
  | succ m => exact .inl ⟨rfl, rfl, _, _, rfl⟩
theorem wfL_nil (m : Nat) : WfL m ([] : List (Tm m)) := by
  cases m with
  | zero => trivial
  | succ m => exact ⟨Nat.zero_le _, fun t h => by cases h⟩

theorem dpost_leaf {m p len cap : Nat} {a : Option Addr} {w Z : World} {k x : Int} {s : ByteArray} (hc : Cur Z p a len cap) (hg : w.grownBy Z (some p)) (hs : Shape k x s 0) (h5 : s.size ≤ 5) (hk : 1 ≤ k ∧ k ≤ 3) (hx : -1000000000000 ≤ x ∧ x ≤ 1000000000000) :
    DPost (m + 1) p a len cap w Z (.agg #[.int .i64 k, .int .i64 x, .string s, .slice none 0 0]) :=
  ⟨hc, hg, (k, x, s, []), [], ⟨none, 0, 0, rfl, ownL_nil m Z⟩, ⟨List.nodup_nil, fun g h => by cases h⟩, ⟨⟨by show -9223372036854775808 ≤ k; omega, by show k ≤ 9223372036854775807; omega⟩, ⟨by show -9223372036854775808 ≤ x; omega, by show x ≤ 9223372036854775807; omega⟩, by show s.size ≤ maxLen; unfold maxLen; omega, wfL_nil m⟩, hs, h5, Nat.zero_le _, fun u h => by cases h⟩

def tmA : List ByteArray := [⟨#[111, 107]⟩, ⟨#[115, 116, 111, 112]⟩, ⟨#[97]⟩, ⟨#[116, 114, 117, 101]⟩, ⟨#[97, 100, 100]⟩]
theorem tmA_ok : ∀ x ∈ tmA, Shape 2 0 x 0 ∧ x.size ≤ 5 := by
  intro x hx
  have h1 : ∀ x ∈ tmA, 1 ≤ x.size ∧ x.size ≤ 5 ∧ ∀ i : Fin x.size, decide (97 ≤ (x[i].toNat : Int) ∧ (x[i].toNat : Int) ≤ 122) = true := by
    unfold tmA; simp only [List.forall_mem_cons, List.not_mem_nil, false_implies, implies_true, and_true]; decide
  obtain ⟨g1, g2, g3⟩ := h1 x hx
  exact ⟨(shape2 _ _ _).2 ⟨⟨fun i h => .inl (by have := g3 ⟨i, h⟩; rw [decide_eq_true_eq] at this; exact this), g1, by omega⟩, rfl, rfl⟩, g2⟩
def tmN (y : Int) : List Int := [0, 1, 2, -1, 7, 1000000000000, -1000000000000, y]
theorem tmN_ok (y : Int) (h0 : 0 ≤ y) (h1 : y < 1000) : ∀ x ∈ tmN y, -1000000000000 ≤ x ∧ x ≤ 1000000000000 := by
  intro x hx
  simp only [tmN, List.mem_cons, List.not_mem_nil, or_false] at hx
  omega

/-- Where a draw of a list of terms stands behind j of them. -/
def DMid (m p : Nat) (a : Option Addr) (len cap : Nat) (w wr : World) (T : Nat) (k : Int) (j : Nat) : Prop :=
  ∃ av l c, wr.heap[w.heap.size]? = some (.cells #[.int .i64 0, .int .i64 0, .string ⟨#[]⟩, .slice none 0 0] 29 (0, 0)) ∧ wr.heap[T]? = some (.cells #[.int .i64 k, .int .i64 0, .string ⟨#[]⟩, .slice av l c] 29 (0, 0)) ∧
    Cur wr p a len cap ∧ w.grownBy wr (some p) ∧ ∃ (ts : List (Tm m)) (fp : List Nat), ts.length = j ∧ Made m (T + 1) wr (.slice av l c) ts fp ∧ ∀ u ∈ ts, SmT m u

theorem dmid_step {m p len cap T : Nat} {al : Option Addr} {k : Int} {w wr w' V2 w2 : World} {j : Nat} {a : Option Addr} {l c : Nat} {ts : List (Tm m)} {fp : List Nat} {k2 x2 : Int} {s2 : ByteArray} {a2 : Option Addr} {l2 c2 : Nat} {cs : List Value} {av : Option Addr} {lv cv : Nat}
    (hp : p < w.heap.size) (hT0 : w.heap.size < T) (hz : T < wr.heap.size) (hR : wr.heap[w.heap.size]? = some (.cells #[.int .i64 0, .int .i64 0, .string ⟨#[]⟩, .slice none 0 0] 29 (0, 0))) (hT : wr.heap[T]? = some (.cells #[.int .i64 k, .int .i64 0, .string ⟨#[]⟩, .slice a l c] 29 (0, 0)))
    (hb : w.grownBy wr (some p)) (hj : ts.length = j) (hj2 : j ≤ 1048576) (hM : Made m (T + 1) wr (.slice a l c) ts fp) (hsm : ∀ u ∈ ts, SmT m u) (hrow : wr.ownsRow (T + 1) 29 4 (.slice a l c) j cs)
    (hP : DPost m p al len cap wr w' (.agg #[.int .i64 k2, .int .i64 x2, .string s2, .slice a2 l2 c2])) (hV2 : Below w'.heap.size w' V2)
    (hown : w2.ownsRow (T + 1) 29 4 (.slice av lv cv) (j + 1) (cs ++ [.int .i64 k2, .int .i64 x2, .string s2, .slice a2 l2 c2])) (hgr : V2.grownBy w2 (Value.slice a l c).ownBlock)
    (hat : (Value.slice av lv cv).ownBlock = (Value.slice a l c).ownBlock ∨ (Value.slice av lv cv).ownBlock = some V2.heap.size) : DMid m p al len cap w (w2.setCell ⟨T, 3, none⟩ (.slice av lv cv)) T k (j + 1) := by
  obtain ⟨hc', p1, t, f, q1, g2, g3, g4⟩ := hP
  have z1 := p1.size
  have z2 := hV2.size
  have z3 := hgr.size
  have hcl := hc'.lt
  have hob : ∀ g, (Value.slice a l c).ownBlock = some g → T + 1 ≤ g := fun g hg => by
    rcases hrow.2 with ⟨e, _⟩ | ⟨g', c', cur, e1, e2, e3, _⟩
    · rw [e] at hg; cases hg
    · rw [e1] at hg
      obtain rfl : g' = g := by simpa [Value.ownBlock] using hg
      exact e2
  have hno : ∀ g, g < T + 1 → some g ≠ (Value.slice a l c).ownBlock := fun g hg e => by have := hob g e.symm; omega
  have k1 : ∀ g, g < T + 1 → g ≠ p → w2.heap[g]? = wr.heap[g]? := fun g hg hne => (hgr.block g (by omega) (hno g hg)).trans ((hV2.block g (by omega)).trans (p1.block g (by omega) (by simpa using hne)))
  have hT2 := (k1 T (by omega) (by omega)).trans hT
  have hcw2 : Cur w2 p al len cap := hc'.same ((hgr.block p (by omega) (hno p (by omega))).trans (hV2.block p hcl))
  refine ⟨av, lv, cv, ?_, ?_, cur_set hcw2 (by omega), ?_, ?_⟩
  · rw [heap_setCell_other _ _ _ _ (by show w.heap.size ≠ T; omega)]
    exact (k1 _ (by omega) (by omega)).trans hR
  · exact heap_setCell_same w2 _ 3 _ _ _ hT2
  · have : w.grownBy w2 (some p) := ⟨hgr.os.trans (hV2.os.trans (p1.os.trans hb.os)), hgr.tape.trans (hV2.tape.trans (p1.tape.trans hb.tape)), hgr.output.trans (hV2.output.trans (p1.output.trans hb.output)), by have := hb.size; omega, fun g hg hne => (k1 g (by omega) (by simpa using hne)).trans (hb.block g hg hne)⟩
    exact grown_set this (by omega)
  · cases m with
    | zero => exact False.elim q1
    | succ m =>
      obtain ⟨a', l', c', ev, q1⟩ := q1
      obtain ⟨cs', fps, r1, r2, r3, r4, r5, r6⟩ := hM
      subst hj
      obtain rfl := row_cs r1 hrow
      simp only [Value.agg.injEq] at ev
      have ev2 : ([.int .i64 k2, .int .i64 x2, .string s2, .slice a2 l2 c2] : List Value) = [.int .i64 t.K, .int .i64 t.N, .string t.S, .slice a' l' c'] := by simpa using congrArg Array.toList ev
      rw [ev2] at hown
      subst r3
      have kp : ∀ g, g < wr.heap.size → g ≠ p → V2.heap[g]? = wr.heap[g]? := fun g hg hne => (hV2.block g (by omega)).trans (p1.block g hg (by simpa using hne))
      have hF : Fresh (T + 1) V2 ((Value.slice a l c).ownBlock.toList ++ fps.flatten) := ⟨r4.1, fun g hg => ⟨(r4.2 g hg).1, by have := (r4.2 g hg).2; omega⟩⟩
      have hpn : ∀ g ∈ (Value.slice a l c).ownBlock.toList ++ fps.flatten, V2.heap[g]? = wr.heap[g]? := fun g hg => kp g (r4.2 g hg).2 (by have := (r4.2 g hg).1; omega)
      obtain ⟨fp', hm, _⟩ := made_step (w := V2) (t := t) (f := f) (rowKept r1 fun g hg => hpn g (List.mem_append_left _ (by rw [hg]; exact List.mem_singleton.2 rfl))) r2 hF r5 (r6.frame fun g hg => hpn g (List.mem_append_right _ hg))
        (q1.frame fun g hg => hV2.block g (g2.2 g hg).2) ⟨g2.1, fun g hg => ⟨by have := (g2.2 g hg).1; omega, by have := (g2.2 g hg).2; omega⟩⟩ (fun g hg hf => by have := (g2.2 g hg).1; have := (r4.2 g hf).2; omega) g3 (by omega) (by omega) hown hgr hat
      refine ⟨ts ++ [t], fp', by simp, hm.frame (fun g hg => ?_) (by simp), fun u hu => ?_⟩
      · obtain ⟨_, _, _, _, _, h4, _⟩ := hm
        exact heap_setCell_other _ _ _ _ (by have := (h4.2 g hg).1; show g ≠ T; omega)
      · rcases List.mem_append.1 hu with h | h
        · exact hsm u h
        · obtain rfl := List.mem_singleton.1 h
          exact g4

theorem dmid_aft {m p len cap T : Nat} {al : Option Addr} {zs : List Int} {k : Int} {w wr w' : World} {j : Nat} {a : Option Addr} {l c : Nat} {ts : List (Tm m)} {fp : List Nat} {k2 x2 : Int} {s2 : ByteArray} {a2 : Option Addr} {l2 c2 : Nat} {cs : List Value}
    (hp : p < w.heap.size) (hT0 : w.heap.size < T) (hz : T < wr.heap.size) (hR : wr.heap[w.heap.size]? = some (.cells #[.int .i64 0, .int .i64 0, .string ⟨#[]⟩, .slice none 0 0] 29 (0, 0))) (hT : wr.heap[T]? = some (.cells #[.int .i64 k, .int .i64 0, .string ⟨#[]⟩, .slice a l c] 29 (0, 0)))
    (hb : w.grownBy wr (some p)) (hj : ts.length = j) (hj2 : j ≤ 1048576) (hM : Made m (T + 1) wr (.slice a l c) ts fp) (hsm : ∀ u ∈ ts, SmT m u) (hrow : wr.ownsRow (T + 1) 29 4 (.slice a l c) j cs)
    (hir : IsRow .u8 w al len cap zs) (hne : ∀ x, al = some x → 0 < cap → x.block ≠ p) (hP : DPost m p al len cap wr w' (.agg #[.int .i64 k2, .int .i64 x2, .string s2, .slice a2 l2 c2])) :
    w'.cell? ⟨T, 3, none⟩ = some (.slice a l c) ∧ T < w'.heap.size ∧ w'.ownsRow (T + 1) 29 4 (.slice a l c) j cs ∧
    Hid (∀ (w2 : World) (av : Option Addr) (lv cv : Nat), w2.ownsRow (T + 1) 29 4 (.slice av lv cv) (j + 1) (cs ++ [.int .i64 k2, .int .i64 x2, .string s2, .slice a2 l2 c2]) → (w'.alloc (.cells #[.int .i64 k2, .int .i64 x2, .string s2, .slice a2 l2 c2] 29)).grownBy w2 (Value.slice a l c).ownBlock →
      ((Value.slice av lv cv).ownBlock = (Value.slice a l c).ownBlock ∨ (Value.slice av lv cv).ownBlock = some (w'.alloc (.cells #[.int .i64 k2, .int .i64 x2, .string s2, .slice a2 l2 c2] 29)).heap.size) →
      w2.cell? ⟨T, 3, none⟩ = some (.slice a l c) ∧ w2.frozen? ⟨T, 3, none⟩ = false ∧ Hid (DMid m p al len cap w (w2.setCell ⟨T, 3, none⟩ (.slice av lv cv)) T k (j + 1)) ∧ Hid (IsRow .u8 (w2.setCell ⟨T, 3, none⟩ (.slice av lv cv)) al len cap zs)) := by
  have hgw := hP.2.1
  have hT' := (hgw.block _ hz (by simp; omega)).trans hT
  have hTz' : T < w'.heap.size := lt_of_row' hT'
  have hob : ∀ g, (Value.slice a l c).ownBlock = some g → T + 1 ≤ g := fun g hg => by
    rcases hrow.2 with ⟨e, _⟩ | ⟨g', c', cur, e1, e2, e3, _⟩
    · rw [e] at hg; cases hg
    · rw [e1] at hg
      obtain rfl : g' = g := by simpa [Value.ownBlock] using hg
      exact e2
  have hA1 : Below w'.heap.size w' (w'.alloc (.cells #[.int .i64 k2, .int .i64 x2, .string s2, .slice a2 l2 c2] 29)) := (Below.refl _ _).alloc (Nat.le_refl _) _
  refine ⟨by rw [cell_of_row w' _ 3 _ _ _ hT']; rfl, hTz', rowKept hrow fun g hg => ?_, fun w2 av lv cv g1 g2 g3 => ?_⟩
  · rcases hrow.2 with ⟨e, _⟩ | ⟨g', c', cur, e1, e2, e3, _⟩
    · rw [e] at hg; cases hg
    · rw [e1] at hg
      obtain rfl : g' = g := by simpa [Value.ownBlock] using hg
      exact hgw.block g' (lt_of_row' e3) (by simp; omega)
  · have hT2 := (g2.block T (by simp; omega) (fun e => by have := hob _ e.symm; omega)).trans ((hA1.block _ hTz').trans hT')
    have hD := dmid_step hp hT0 hz hR hT hb hj hj2 hM hsm hrow hP hA1 g1 g2 g3
    refine ⟨by rw [cell_of_row w2 _ 3 _ _ _ hT2]; rfl, frozen_of_row w2 _ 3 _ _ hT2, hD, ?_⟩
    obtain ⟨_, _, _, _, _, _, h, _⟩ := hD
    exact hir.grown h hne

end Go.Proofs.Ytjdhkhpdhblhbaa
