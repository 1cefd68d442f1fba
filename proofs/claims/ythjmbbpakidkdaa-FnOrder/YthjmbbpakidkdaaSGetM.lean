/- The model's reading of a term: what is read of the bytes, in new memory. -/
import Derived.Test.YthjmbbpakidkdaaIGet2M
import Derived.Test.YthjmbbpakidkdaaNumM
namespace Go.Proofs.Ythjmbbpakidkdaa
open Go.RowKit
set_option linter.unusedVariables false

/-- What the model's reading of a term hands on. -/
def SPost (m : Nat) (w w' : World) (n : Nat) (zs : List Int) (at_ : Int) (v : Value) (q : Int) (ok : Bool) : Prop :=
  Below w.heap.size w w' ∧ (ok = true → ∃ (t : Tm m) (fp : List Nat), OwnT m w' v t fp ∧ Fresh w.heap.size w' fp ∧ WfT m t ∧ Came zs m at_ t q ∧ at_ < q ∧ q ≤ n) ∧ (ok = false → getT zs m at_ = none)

/-- The contract of the model's reading of a term. -/
def SGC (m : Nat) : Prop := ∀ (b off n cap : Nat) (zs : List Int) (at_ : Int) (w : World), Bts n cap zs → (∀ i, i < n → w.cell? ⟨b, off + i, none⟩ = some (.int .u8 (zs.getD i 0))) →
  Calls Try.prog 79 #[.slice (some ⟨b, off, none⟩) n cap, .int .i64 at_, .int .i64 m] w fun e w' => ∃ k x s a l c q ok, e = .returned (.tuple #[.agg #[.int .i64 k, .int .i64 x, .string s, .slice a l c], .int .i64 q, .bool ok]) ∧ Hid (SPost m w w' n zs at_ (.agg #[.int .i64 k, .int .i64 x, .string s, .slice a l c]) q ok)

/-- Where the model's reading of a list stands behind j of them. -/
def SMid (m : Nat) (w wr : World) (n : Nat) (zs : List Int) (k r : Int) (j : Nat) (at2 : Int) : Prop :=
  ∃ a l c, wr.heap[w.heap.size]? = some (.cells #[.int .i64 0, .int .i64 0, .string ⟨#[]⟩, .slice none 0 0] 26 (0, 0)) ∧ wr.heap[w.heap.size + 1]? = some (.cells #[.int .i64 k, .int .i64 0, .string ⟨#[]⟩, .slice a l c] 26 (0, 0)) ∧
    Below w.heap.size w wr ∧ ∃ (ts : List (Tm m)) (fp : List Nat), ts.length = j ∧ Made m (w.heap.size + 2) wr (.slice a l c) ts fp ∧ CameL zs m j r ts at2 ∧ r + j ≤ at2 ∧ at2 ≤ n

theorem made_row {m B : Nat} {w : World} {v : Value} {ts : List (Tm m)} {fp : List Nat} (h : Made m B w v ts fp) : ∃ cs, w.ownsRow B 26 4 v ts.length cs := by
  obtain ⟨cs, _, h, _⟩ := h
  exact ⟨cs, h⟩

theorem row_cs {w : World} {B n : Nat} {v : Value} {cs cs' : List Value} (r1 : w.ownsRow B 26 4 v n cs') (hcs : w.ownsRow B 26 4 v n cs) : cs' = cs := by
  rcases r1.2 with ⟨e1, e2⟩ | ⟨g1, c1, cur1, e1, _, e3, _, _, _, e7⟩
  · have l1 := r1.1
    have l2 := hcs.1
    rw [e2] at l1 l2
    rw [List.length_eq_zero_iff.1 (show cs'.length = 0 by omega), List.length_eq_zero_iff.1 (show cs.length = 0 by omega)]
  · rcases hcs.2 with ⟨d1, d2⟩ | ⟨g2, c2, cur2, d1, _, d3, _, _, _, d7⟩
    · rw [d1] at e1; cases e1
    · rw [d1] at e1
      simp only [Value.slice.injEq, Option.some.injEq, Addr.mk.injEq, and_true, true_and] at e1
      obtain ⟨rfl, rfl⟩ := e1
      rw [e3] at d3
      simp only [Option.some.injEq, Obj.cells.injEq, and_true] at d3
      subst d3
      rw [← e7, ← d7]

/-- One more of them. -/
theorem smid_step {m n : Nat} {zs : List Int} {k r at2 q2 : Int} {w wr w' V2 w2 : World} {j : Nat} {a : Option Addr} {l c : Nat} {ts : List (Tm m)} {fp : List Nat} {k2 x2 : Int} {s2 : ByteArray} {a2 : Option Addr} {l2 c2 : Nat} {cs : List Value} {av : Option Addr} {lv cv : Nat}
    (hz : w.heap.size + 2 ≤ wr.heap.size) (hR : wr.heap[w.heap.size]? = some (.cells #[.int .i64 0, .int .i64 0, .string ⟨#[]⟩, .slice none 0 0] 26 (0, 0))) (hT : wr.heap[w.heap.size + 1]? = some (.cells #[.int .i64 k, .int .i64 0, .string ⟨#[]⟩, .slice a l c] 26 (0, 0)))
    (hb : Below w.heap.size w wr) (hj : ts.length = j) (hj2 : j ≤ 1048576) (hM : Made m (w.heap.size + 2) wr (.slice a l c) ts fp) (hC : CameL zs m j r ts at2) (hq : r + j ≤ at2) (hrow : wr.ownsRow (w.heap.size + 2) 26 4 (.slice a l c) j cs)
    (hP : SPost m wr w' n zs at2 (.agg #[.int .i64 k2, .int .i64 x2, .string s2, .slice a2 l2 c2]) q2 true) (hV2 : Below w'.heap.size w' V2)
    (hown : w2.ownsRow (w.heap.size + 2) 26 4 (.slice av lv cv) (j + 1) (cs ++ [.int .i64 k2, .int .i64 x2, .string s2, .slice a2 l2 c2])) (hgr : V2.grownBy w2 (Value.slice a l c).ownBlock)
    (hat : (Value.slice av lv cv).ownBlock = (Value.slice a l c).ownBlock ∨ (Value.slice av lv cv).ownBlock = some V2.heap.size) : SMid m w (w2.setCell ⟨w.heap.size + 1, 3, none⟩ (.slice av lv cv)) n zs k r (j + 1) q2 := by
  obtain ⟨p1, p2, _⟩ := hP
  obtain ⟨t, f, q1, g2, g3, g4, g5, g6⟩ := p2 rfl
  have z1 := p1.size
  have z2 := hV2.size
  have z3 := hgr.size
  have hob : ∀ g, (Value.slice a l c).ownBlock = some g → w.heap.size + 2 ≤ g := fun g hg => by
    rcases hrow.2 with ⟨e, _⟩ | ⟨g', c', cur, e1, e2, e3, _⟩
    · rw [e] at hg; cases hg
    · rw [e1] at hg
      obtain rfl : g' = g := by simpa [Value.ownBlock] using hg
      exact e2
  have hno : ∀ g, g < w.heap.size + 2 → some g ≠ (Value.slice a l c).ownBlock := fun g hg e => by have := hob g e.symm; omega
  have k1 : ∀ g, g < w.heap.size + 2 → w2.heap[g]? = wr.heap[g]? := fun g hg => (hgr.block g (by omega) (hno g hg)).trans ((hV2.block g (by omega)).trans (p1.block g (by omega)))
  have hT2 := (k1 (w.heap.size + 1) (by omega)).trans hT
  refine ⟨av, lv, cv, ?_, ?_, ?_, ?_⟩
  · rw [heap_setCell_other _ _ _ _ (by show w.heap.size ≠ w.heap.size + 1; omega)]
    exact (k1 _ (by omega)).trans hR
  · exact heap_setCell_same w2 _ 3 _ _ _ hT2
  · have : Below w.heap.size w w2 := ⟨hgr.os.trans (hV2.os.trans (p1.os.trans hb.os)), hgr.tape.trans (hV2.tape.trans (p1.tape.trans hb.tape)), hgr.output.trans (hV2.output.trans (p1.output.trans hb.output)), by omega, fun g hg => (k1 g (by omega)).trans (hb.block g hg)⟩
    exact this.setCell (by simp) _
  · cases m with
    | zero => exact False.elim q1
    | succ m =>
      obtain ⟨a', l', c', ev, q1⟩ := q1
      obtain ⟨cs', fps, r1, r2, r3, r4, r5, r6⟩ := hM
      subst hj
      obtain rfl := row_cs r1 hrow
      simp only [Value.agg.injEq] at ev
      have ev2 : ([.int .i64 k2, .int .i64 x2, .string s2, .slice a2 l2 c2] : List Value) = [.int .i64 t.K, .int .i64 t.N, .string t.S, .slice a' l' c'] := by simpa using congrArg Array.toList ev
      rw [ev2] at hown
      subst r3
      have kp : ∀ g, g < wr.heap.size → V2.heap[g]? = wr.heap[g]? := fun g hg => (hV2.block g (by omega)).trans (p1.block g hg)
      have hF : Fresh (w.heap.size + 2) V2 ((Value.slice a l c).ownBlock.toList ++ fps.flatten) := ⟨r4.1, fun g hg => ⟨(r4.2 g hg).1, by have := (r4.2 g hg).2; omega⟩⟩
      have hpn : ∀ g ∈ (Value.slice a l c).ownBlock.toList ++ fps.flatten, V2.heap[g]? = wr.heap[g]? := fun g hg => kp g (r4.2 g hg).2
      obtain ⟨fp', hm, _⟩ := made_step (w := V2) (t := t) (f := f) (rowKept r1 fun g hg => hpn g (List.mem_append_left _ (by rw [hg]; exact List.mem_singleton.2 rfl))) r2 hF r5 (r6.frame fun g hg => hpn g (List.mem_append_right _ hg))
        (q1.frame fun g hg => hV2.block g (g2.2 g hg).2) ⟨g2.1, fun g hg => ⟨by have := (g2.2 g hg).1; omega, by have := (g2.2 g hg).2; omega⟩⟩ (fun g hg hf => by have := (g2.2 g hg).1; have := (r4.2 g hf).2; omega) g3 (by omega) (by omega) hown hgr hat
      refine ⟨ts ++ [t], fp', by simp, hm.frame (fun g hg => ?_) (by simp), came_step hC g4, by omega, g6⟩
      obtain ⟨_, _, _, _, _, h4, _⟩ := hm
      exact heap_setCell_other _ _ _ _ (by have := (h4.2 g hg).1; show g ≠ w.heap.size + 1; omega)

/-- A list that was read, as a term of its kind. -/
theorem came_list {m : Nat} {zs : List Int} {at_ k q x r at2 : Int} {ts : List (Tm m)} (hk : ¬ k = 1 ∧ ¬ k = 3 ∧ ¬ k = 2) (h1 : getNum zs at_ = (k, q, true)) (h2 : getNum zs q = (x, r, true)) (hx : 0 ≤ x ∧ x ≤ 60) (h : CameL zs m x.toNat r ts at2) :
    Came zs (m + 1) at_ ((k, 0, ByteArray.empty, ts) : Int × Int × ByteArray × List (Tm m)) at2 := by
  unfold Came
  rw [getT_at h1]
  unfold getB
  rw [if_neg (by omega), if_neg hk.2.2, h2]
  by_cases h45 : k = 4 ∨ k = 5
  · rw [if_pos ⟨h45, rfl, hx.1, hx.2⟩]
    dsimp only
    rcases h with h | ⟨h, gn⟩
    · rw [h]; exact .inl rfl
    · rw [h]; exact .inr ⟨rfl, fun ho => gn ho.2⟩
  · rw [if_neg (fun hc => h45 hc.1)]
    refine .inr ⟨rfl, fun ho => ?_⟩
    have := shape_kind ho.1
    have : k = 1 ∨ k = 2 ∨ k = 3 ∨ k = 4 ∨ k = 5 := this
    omega

theorem none_list {m : Nat} {zs : List Int} {at_ k q x r : Int} (hk : ¬ k = 1 ∧ ¬ k = 3 ∧ ¬ k = 2) (h1 : getNum zs at_ = (k, q, true)) (h2 : getNum zs q = (x, r, true)) (h : getL (getT zs m) x.toNat r = none) : getT zs (m + 1) at_ = none := by
  rw [getT_at h1]
  unfold getB
  rw [if_neg (by omega), if_neg hk.2.2, h2]
  split
  · dsimp only; rw [h]; rfl
  · rfl

/-- What is handed out at the end of a list. -/
theorem spost_list {m n : Nat} {zs : List Int} {at_ k q x r at2 : Int} {w wr Z : World} {a : Option Addr} {l c : Nat} {ts : List (Tm m)} {fp : List Nat} (hk : ¬ k = 1 ∧ ¬ k = 3 ∧ ¬ k = 2) (hkb : I64 k) (h1 : getNum zs at_ = (k, q, true)) (h2 : getNum zs q = (x, r, true)) (hx : 0 ≤ x ∧ x ≤ 60) (hat : at_ < r) (hr : r ≤ at2) (hn : at2 ≤ n)
    (hb : Below w.heap.size w wr) (hM : Made m (w.heap.size + 2) wr (.slice a l c) ts fp) (h : CameL zs m x.toNat r ts at2) (hZ : Turned w.heap.size wr Z) : SPost (m + 1) w Z n zs at_ (.agg #[.int .i64 k, .int .i64 0, .string ByteArray.empty, .slice a l c]) at2 true := by
  obtain ⟨a', l', c', fp', e, q1, q2, q3⟩ := hM.own
  refine ⟨hb.trans (hZ.below (Nat.le_refl _) hb.size), fun _ => ⟨((k, 0, ByteArray.empty, ts) : Int × Int × ByteArray × List (Tm m)), fp', ⟨a, l, c, rfl, ?_⟩, ⟨q2.1, fun g hg => ⟨by have := (q2.2 g hg).1; omega, by have := (q2.2 g hg).2; have := hZ.size; omega⟩⟩, ⟨hkb, ⟨by show _ ≤ (0 : Int); omega, by show (0 : Int) ≤ _; omega⟩, Nat.zero_le _, q3⟩, came_list hk h1 h2 hx h, by omega, hn⟩, (fun e => Bool.noConfusion e)⟩
  exact q1.frame fun g hg => hZ.block g (q2.2 g hg).2 (by have := (q2.2 g hg).1; omega)

end Go.Proofs.Ythjmbbpakidkdaa

/- The model's reading of a term, on: all kinds and storeys. -/
namespace Go.Proofs.Ythjmbbpakidkdaa
open Go.RowKit
set_option linter.unusedVariables false

/-- The model's GetNum, in every later world. -/
theorem num_later {b off n cap : Nat} {zs : List Int} {w : World} (hB : Bts n cap zs) (hrow : ∀ i, i < n → w.cell? ⟨b, off + i, none⟩ = some (.int .u8 (zs.getD i 0))) :
    ∀ X p x q ok, Below w.heap.size w X → getNum zs p = (x, q, ok) → Calls Try.prog 130 #[.slice (some ⟨b, off, none⟩) n cap, .int .i64 p] X fun e w' => e = .returned (.tuple #[.int .i64 x, .int .i64 q, .bool ok]) ∧ X = w' := fun X p x q ok hX hg => by
  refine (specGetNum_any b off n cap p zs X hB.len (by have := hB.le; omega) (fun i hi => cell_later hX (hrow i hi)) hB.rng).mono ?_
  rintro e w' ⟨rfl, rfl⟩
  rw [hg]
  exact ⟨rfl, rfl⟩
theorem text_later {b off n cap : Nat} {zs : List Int} {w : World} (hB : Bts n cap zs) (hrow : ∀ i, i < n → w.cell? ⟨b, off + i, none⟩ = some (.int .u8 (zs.getD i 0))) :
    ∀ X p x q ok, Below w.heap.size w X → getText zs p = (x, q, ok) → Calls Try.prog 131 #[.slice (some ⟨b, off, none⟩) n cap, .int .i64 p] X fun e w' => e = .returned (.tuple #[.string (strOfNums x), .int .i64 q, .bool ok]) ∧ X = w' := fun X p x q ok hX hg => by
  refine (specGetText_any b off n cap p zs X hB.len (by have := hB.le; omega) hB.cap1 hB.cap2 (fun i hi => cell_later hX (hrow i hi)) hB.rng).mono ?_
  rintro e w' ⟨rfl, rfl⟩
  rw [hg]
  exact ⟨rfl, rfl⟩

theorem spost_no {m n : Nat} {zs : List Int} {at_ q : Int} {w Z : World} {v : Value} (hb : Below w.heap.size w Z) (h : getT zs m at_ = none) : SPost m w Z n zs at_ v q false := ⟨hb, (fun e => Bool.noConfusion e), fun _ => h⟩

theorem spost_leaf {m n : Nat} {zs : List Int} {at_ at' k x : Int} {s : ByteArray} {w Z : World} (hb : Below w.heap.size w Z) (hk : I64 k) (hx : I64 x) (hs : s.size ≤ maxLen) (hlt : at_ < at') (hle : at' ≤ n)
    (h : getT zs (m + 1) at_ = some (((k, x, s, []) : Int × Int × ByteArray × List (Tm m)), at')) : SPost (m + 1) w Z n zs at_ (.agg #[.int .i64 k, .int .i64 x, .string s, .slice none 0 0]) at' true := by
  obtain ⟨a, l, c, fp, e, h1, h2, h3⟩ := (made_nil m w.heap.size Z).own
  exact ⟨hb, fun _ => ⟨((k, x, s, []) : Int × Int × ByteArray × List (Tm m)), fp, ⟨none, 0, 0, rfl, h1⟩, h2, ⟨hk, hx, hs, h3⟩, .inl h, hlt, hle⟩, (fun e => Bool.noConfusion e)⟩

theorem two_below (w : World) (o1 o2 : Obj) : Below w.heap.size w ((w.alloc o1).alloc o2) := ((Below.refl _ _).alloc (Nat.le_refl _) _).alloc (by simp) _
theorem set_below {w Z : World} (h : Below w.heap.size w Z) (g o : Nat) (v : Value) (hg : w.heap.size ≤ g) : Below w.heap.size w (Z.setCell ⟨g, o, none⟩ v) := h.setCell hg _

set_option maxHeartbeats 1000000 in
/-- What is refused at once. -/
theorem specGet_no (m : Nat) (hm : m ≤ 8) (b off n cap : Nat) (zs : List Int) (at_ : Int) (w : World) (hB : Bts n cap zs) (hrow : ∀ i, i < n → w.cell? ⟨b, off + i, none⟩ = some (.int .u8 (zs.getD i 0))) (h : m = 0 ∨ ¬ (getNum zs at_).2.2 = true) :
    Calls Try.prog 79 #[.slice (some ⟨b, off, none⟩) n cap, .int .i64 at_, .int .i64 m] w fun e w' => ∃ k x s a l c q ok, e = .returned (.tuple #[.agg #[.int .i64 k, .int .i64 x, .string s, .slice a l c], .int .i64 q, .bool ok]) ∧ Hid (SPost m w w' n zs at_ (.agg #[.int .i64 k, .int .i64 x, .string s, .slice a l c]) q ok) := by
  have hN : getT zs m at_ = none := by
    cases m with
    | zero => rfl
    | succ m => exact getT_no (by rcases h with h | h; omega; exact h)
  obtain ⟨k, q, ok, hg⟩ : ∃ k q ok, getNum zs at_ = (k, q, ok) := ⟨_, _, _, rfl⟩
  have HN := num_later hB hrow
  have HP : Hid (∀ Z v q, Below w.heap.size w Z → SPost m w Z n zs at_ v q false) := fun Z v q hb => spost_no hb hN
  have HH : Hid (∀ X, Below w.heap.size w X → Calls Try.prog 130 #[.slice (some ⟨b, off, none⟩) n cap, .int .i64 at_] X fun e w' => e = .returned (.tuple #[.int .i64 k, .int .i64 q, .bool ok]) ∧ X = w') := fun X hX => HN X _ _ _ _ hX hg
  have hd : ok = false ∨ (ok = true ∧ (m : Int) < 1) := by
    rw [hg] at h
    cases ok
    · exact .inl rfl
    · exact .inr ⟨rfl, by rcases h with h | h; omega; exact absurd rfl h⟩
  obtain ⟨dp, hdp⟩ : ∃ dp : Int, (m : Int) = dp := ⟨_, rfl⟩
  rw [hdp] at hd ⊢
  have hdb : 0 ≤ dp ∧ dp ≤ 8 := by omega
  clear hN hg HN h hrow hB hdp
  have hA : ∀ o, Below w.heap.size w (w.alloc o) := fun o => (Below.refl _ _).alloc (Nat.le_refl _) _
  rcases hd with rfl | ⟨rfl, hd⟩
  · go_enter Try.func79, Try.ntmps79
    go_wp2_with fail
    refine (HH.out _ (hA _)).mono ?_
    rintro e w' ⟨rfl, rfl⟩
    go_wp2_with fail
    refine bodyPost_ret (v := .tuple #[.agg #[.int .i64 k, .int .i64 0, .string ByteArray.empty, .slice none 0 0], .int .i64 0, .bool false]) (by first | (simp [results, Try.results79, go_sem]; done) | (simp [results, Try.results79, go_sem]; rfl)) rfl ⟨k, 0, ByteArray.empty, none, 0, 0, 0, false, rfl, HP.out _ _ _ ?_⟩
    first | exact two_below _ _ _ | (refine set_below (set_below (set_below (set_below (two_below _ _ _) _ _ _ ?_) _ _ _ ?_) _ _ _ ?_) _ _ _ ?_ <;> (try simp)) | (trace_state; done)
  · go_enter Try.func79, Try.ntmps79
    go_wp2_with fail
    refine (HH.out _ (hA _)).mono ?_
    rintro e w' ⟨rfl, rfl⟩
    go_wp2_with fail
    refine bodyPost_ret (v := .tuple #[.agg #[.int .i64 k, .int .i64 0, .string ByteArray.empty, .slice none 0 0], .int .i64 0, .bool false]) (by first | (simp [results, Try.results79, go_sem]; done) | (simp [results, Try.results79, go_sem]; rfl)) rfl ⟨k, 0, ByteArray.empty, none, 0, 0, 0, false, rfl, HP.out _ _ _ ?_⟩
    first | exact two_below _ _ _ | (refine set_below (set_below (set_below (set_below (two_below _ _ _) _ _ _ ?_) _ _ _ ?_) _ _ _ ?_) _ _ _ ?_ <;> (try simp)) | (trace_state; done)

end Go.Proofs.Ythjmbbpakidkdaa

/- What a draw of a term comes to: a term that is right, of few parts, in new memory; of what was there only the cursor is turned. -/
namespace Go.Proofs.Ythjmbbpakidkdaa
open Go.RowKit
set_option linter.unusedVariables false

/-- A term that is right, and small: short texts, few in each, all storeys. -/
def SmT : (m : Nat) → Tm m → Prop
  | 0, _ => False
  | m + 1, t => Shape t.K t.N t.S t.L.length ∧ t.S.size ≤ 5 ∧ t.L.length ≤ 3 ∧ ∀ u ∈ t.L, SmT m u

/-- What a draw of a term hands on. -/
def DPost (m p : Nat) (a : Option Addr) (len cap : Nat) (w w' : World) (v : Value) : Prop :=
  Cur w' p a len cap ∧ w.grownBy w' (some p) ∧ ∃ (t : Tm m) (fp : List Nat), OwnT m w' v t fp ∧ Fresh w.heap.size w' fp ∧ WfT m t ∧ SmT m t

/-- The contract of a draw of a term. -/
def DrC (m : Nat) : Prop := ∀ (p len cap : Nat) (a : Option Addr) (zs : List Int) (w : World), Cur w p a len cap → IsRow .u8 w a len cap zs → (∀ x, a = some x → 0 < cap → x.block ≠ p) → len ≤ 4611686018427387904 →
  Calls Try.prog 76 #[.pointer (some ⟨p, 0, none⟩), .int .i64 m] w fun e w' => ∃ k x s av l c, e = .returned (.agg #[.int .i64 k, .int .i64 x, .string s, .slice av l c]) ∧ Hid (DPost (m + 1) p a len cap w w' (.agg #[.int .i64 k, .int .i64 x, .string s, .slice av l c]))

theorem ownL_nil (m : Nat) (w : World) : OwnL m w (.slice none 0 0) ([] : List (Tm m)) [] := by
  cases m with
  | zero => exact ⟨⟨_, _, rfl⟩, rfl⟩
  | succ m => exact .inl ⟨rfl, rfl, _, _, rfl⟩
theorem wfL_nil (m : Nat) : WfL m ([] : List (Tm m)) := by
  cases m with
  | zero => trivial
  | succ m => exact ⟨Nat.zero_le _, fun t h => by cases h⟩

theorem dpost_leaf {m p len cap : Nat} {a : Option Addr} {w Z : World} {k x : Int} {s : ByteArray} (hc : Cur Z p a len cap) (hg : w.grownBy Z (some p)) (hs : Shape k x s 0) (h5 : s.size ≤ 5) (hk : 1 ≤ k ∧ k ≤ 3) (hx : -1000000000000 ≤ x ∧ x ≤ 1000000000000) :
    DPost (m + 1) p a len cap w Z (.agg #[.int .i64 k, .int .i64 x, .string s, .slice none 0 0]) :=
  ⟨hc, hg, (k, x, s, []), [], ⟨none, 0, 0, rfl, ownL_nil m Z⟩, ⟨List.nodup_nil, fun g h => by cases h⟩, ⟨⟨by show -9223372036854775808 ≤ k; omega, by show k ≤ 9223372036854775807; omega⟩, ⟨by show -9223372036854775808 ≤ x; omega, by show x ≤ 9223372036854775807; omega⟩, by show s.size ≤ maxLen; unfold maxLen; omega, wfL_nil m⟩, hs, h5, Nat.zero_le _, fun u h => by cases h⟩

def tmA : List ByteArray := [⟨#[111, 107]⟩, ⟨#[115, 116, 111, 112]⟩, ⟨#[97]⟩, ⟨#[116, 114, 117, 101]⟩, ⟨#[97, 100, 100]⟩]
theorem tmA_ok : ∀ x ∈ tmA, Shape 2 0 x 0 ∧ x.size ≤ 5 := by
  intro x hx
  have h1 : ∀ x ∈ tmA, 1 ≤ x.size ∧ x.size ≤ 5 ∧ ∀ i : Fin x.size, decide (97 ≤ (x[i].toNat : Int) ∧ (x[i].toNat : Int) ≤ 122) = true := by
    unfold tmA; simp only [List.forall_mem_cons, List.not_mem_nil, false_implies, implies_true, and_true]; decide
  obtain ⟨g1, g2, g3⟩ := h1 x hx
  exact ⟨(shape2 _ _ _).2 ⟨⟨fun i h => .inl (by have := g3 ⟨i, h⟩; rw [decide_eq_true_eq] at this; exact this), g1, by omega⟩, rfl, rfl⟩, g2⟩
def tmN (y : Int) : List Int := [0, 1, 2, -1, 7, 1000000000000, -1000000000000, y]
theorem tmN_ok (y : Int) (h0 : 0 ≤ y) (h1 : y < 1000) : ∀ x ∈ tmN y, -1000000000000 ≤ x ∧ x ≤ 1000000000000 := by
  intro x hx
  simp only [tmN, List.mem_cons, List.not_mem_nil, or_false] at hx
  omega

/-- Where a draw of a list of terms stands behind j of them. -/
def DMid (m p : Nat) (a : Option Addr) (len cap : Nat) (w wr : World) (T : Nat) (k : Int) (j : Nat) : Prop :=
  ∃ av l c, wr.heap[w.heap.size]? = some (.cells #[.int .i64 0, .int .i64 0, .string ⟨#[]⟩, .slice none 0 0] 26 (0, 0)) ∧ wr.heap[T]? = some (.cells #[.int .i64 k, .int .i64 0, .string ⟨#[]⟩, .slice av l c] 26 (0, 0)) ∧
    Cur wr p a len cap ∧ w.grownBy wr (some p) ∧ ∃ (ts : List (Tm m)) (fp : List Nat), ts.length = j ∧ Made m (T + 1) wr (.slice av l c) ts fp ∧ ∀ u ∈ ts, SmT m u

theorem dmid_step {m p len cap T : Nat} {al : Option Addr} {k : Int} {w wr w' V2 w2 : World} {j : Nat} {a : Option Addr} {l c : Nat} {ts : List (Tm m)} {fp : List Nat} {k2 x2 : Int} {s2 : ByteArray} {a2 : Option Addr} {l2 c2 : Nat} {cs : List Value} {av : Option Addr} {lv cv : Nat}
    (hp : p < w.heap.size) (hT0 : w.heap.size < T) (hz : T < wr.heap.size) (hR : wr.heap[w.heap.size]? = some (.cells #[.int .i64 0, .int .i64 0, .string ⟨#[]⟩, .slice none 0 0] 26 (0, 0))) (hT : wr.heap[T]? = some (.cells #[.int .i64 k, .int .i64 0, .string ⟨#[]⟩, .slice a l c] 26 (0, 0)))
    (hb : w.grownBy wr (some p)) (hj : ts.length = j) (hj2 : j ≤ 1048576) (hM : Made m (T + 1) wr (.slice a l c) ts fp) (hsm : ∀ u ∈ ts, SmT m u) (hrow : wr.ownsRow (T + 1) 26 4 (.slice a l c) j cs)
    (hP : DPost m p al len cap wr w' (.agg #[.int .i64 k2, .int .i64 x2, .string s2, .slice a2 l2 c2])) (hV2 : Below w'.heap.size w' V2)
    (hown : w2.ownsRow (T + 1) 26 4 (.slice av lv cv) (j + 1) (cs ++ [.int .i64 k2, .int .i64 x2, .string s2, .slice a2 l2 c2])) (hgr : V2.grownBy w2 (Value.slice a l c).ownBlock)
    (hat : (Value.slice av lv cv).ownBlock = (Value.slice a l c).ownBlock ∨ (Value.slice av lv cv).ownBlock = some V2.heap.size) : DMid m p al len cap w (w2.setCell ⟨T, 3, none⟩ (.slice av lv cv)) T k (j + 1) := by
  obtain ⟨hc', p1, t, f, q1, g2, g3, g4⟩ := hP
  have z1 := p1.size
  have z2 := hV2.size
  have z3 := hgr.size
  have hcl := hc'.lt
  have hob : ∀ g, (Value.slice a l c).ownBlock = some g → T + 1 ≤ g := fun g hg => by
    rcases hrow.2 with ⟨e, _⟩ | ⟨g', c', cur, e1, e2, e3, _⟩
    · rw [e] at hg; cases hg
    · rw [e1] at hg
      obtain rfl : g' = g := by simpa [Value.ownBlock] using hg
      exact e2
  have hno : ∀ g, g < T + 1 → some g ≠ (Value.slice a l c).ownBlock := fun g hg e => by have := hob g e.symm; omega
  have k1 : ∀ g, g < T + 1 → g ≠ p → w2.heap[g]? = wr.heap[g]? := fun g hg hne => (hgr.block g (by omega) (hno g hg)).trans ((hV2.block g (by omega)).trans (p1.block g (by omega) (by simpa using hne)))
  have hT2 := (k1 T (by omega) (by omega)).trans hT
  have hcw2 : Cur w2 p al len cap := hc'.same ((hgr.block p (by omega) (hno p (by omega))).trans (hV2.block p hcl))
  refine ⟨av, lv, cv, ?_, ?_, cur_set hcw2 (by omega), ?_, ?_⟩
  · rw [heap_setCell_other _ _ _ _ (by show w.heap.size ≠ T; omega)]
    exact (k1 _ (by omega) (by omega)).trans hR
  · exact heap_setCell_same w2 _ 3 _ _ _ hT2
  · have : w.grownBy w2 (some p) := ⟨hgr.os.trans (hV2.os.trans (p1.os.trans hb.os)), hgr.tape.trans (hV2.tape.trans (p1.tape.trans hb.tape)), hgr.output.trans (hV2.output.trans (p1.output.trans hb.output)), by have := hb.size; omega, fun g hg hne => (k1 g (by omega) (by simpa using hne)).trans (hb.block g hg hne)⟩
    exact grown_set this (by omega)
  · cases m with
    | zero => exact False.elim q1
    | succ m =>
      obtain ⟨a', l', c', ev, q1⟩ := q1
      obtain ⟨cs', fps, r1, r2, r3, r4, r5, r6⟩ := hM
      subst hj
      obtain rfl := row_cs r1 hrow
      simp only [Value.agg.injEq] at ev
      have ev2 : ([.int .i64 k2, .int .i64 x2, .string s2, .slice a2 l2 c2] : List Value) = [.int .i64 t.K, .int .i64 t.N, .string t.S, .slice a' l' c'] := by simpa using congrArg Array.toList ev
      rw [ev2] at hown
      subst r3
      have kp : ∀ g, g < wr.heap.size → g ≠ p → V2.heap[g]? = wr.heap[g]? := fun g hg hne => (hV2.block g (by omega)).trans (p1.block g hg (by simpa using hne))
      have hF : Fresh (T + 1) V2 ((Value.slice a l c).ownBlock.toList ++ fps.flatten) := ⟨r4.1, fun g hg => ⟨(r4.2 g hg).1, by have := (r4.2 g hg).2; omega⟩⟩
      have hpn : ∀ g ∈ (Value.slice a l c).ownBlock.toList ++ fps.flatten, V2.heap[g]? = wr.heap[g]? := fun g hg => kp g (r4.2 g hg).2 (by have := (r4.2 g hg).1; omega)
      obtain ⟨fp', hm, _⟩ := made_step (w := V2) (t := t) (f := f) (rowKept r1 fun g hg => hpn g (List.mem_append_left _ (by rw [hg]; exact List.mem_singleton.2 rfl))) r2 hF r5 (r6.frame fun g hg => hpn g (List.mem_append_right _ hg))
        (q1.frame fun g hg => hV2.block g (g2.2 g hg).2) ⟨g2.1, fun g hg => ⟨by have := (g2.2 g hg).1; omega, by have := (g2.2 g hg).2; omega⟩⟩ (fun g hg hf => by have := (g2.2 g hg).1; have := (r4.2 g hf).2; omega) g3 (by omega) (by omega) hown hgr hat
      refine ⟨ts ++ [t], fp', by simp, hm.frame (fun g hg => ?_) (by simp), fun u hu => ?_⟩
      · obtain ⟨_, _, _, _, _, h4, _⟩ := hm
        exact heap_setCell_other _ _ _ _ (by have := (h4.2 g hg).1; show g ≠ T; omega)
      · rcases List.mem_append.1 hu with h | h
        · exact hsm u h
        · obtain rfl := List.mem_singleton.1 h
          exact g4

theorem dmid_aft {m p len cap T : Nat} {al : Option Addr} {zs : List Int} {k : Int} {w wr w' : World} {j : Nat} {a : Option Addr} {l c : Nat} {ts : List (Tm m)} {fp : List Nat} {k2 x2 : Int} {s2 : ByteArray} {a2 : Option Addr} {l2 c2 : Nat} {cs : List Value}
    (hp : p < w.heap.size) (hT0 : w.heap.size < T) (hz : T < wr.heap.size) (hR : wr.heap[w.heap.size]? = some (.cells #[.int .i64 0, .int .i64 0, .string ⟨#[]⟩, .slice none 0 0] 26 (0, 0))) (hT : wr.heap[T]? = some (.cells #[.int .i64 k, .int .i64 0, .string ⟨#[]⟩, .slice a l c] 26 (0, 0)))
    (hb : w.grownBy wr (some p)) (hj : ts.length = j) (hj2 : j ≤ 1048576) (hM : Made m (T + 1) wr (.slice a l c) ts fp) (hsm : ∀ u ∈ ts, SmT m u) (hrow : wr.ownsRow (T + 1) 26 4 (.slice a l c) j cs)
    (hir : IsRow .u8 w al len cap zs) (hne : ∀ x, al = some x → 0 < cap → x.block ≠ p) (hP : DPost m p al len cap wr w' (.agg #[.int .i64 k2, .int .i64 x2, .string s2, .slice a2 l2 c2])) :
    w'.cell? ⟨T, 3, none⟩ = some (.slice a l c) ∧ T < w'.heap.size ∧ w'.ownsRow (T + 1) 26 4 (.slice a l c) j cs ∧
    Hid (∀ (w2 : World) (av : Option Addr) (lv cv : Nat), w2.ownsRow (T + 1) 26 4 (.slice av lv cv) (j + 1) (cs ++ [.int .i64 k2, .int .i64 x2, .string s2, .slice a2 l2 c2]) → (w'.alloc (.cells #[.int .i64 k2, .int .i64 x2, .string s2, .slice a2 l2 c2] 26)).grownBy w2 (Value.slice a l c).ownBlock →
      ((Value.slice av lv cv).ownBlock = (Value.slice a l c).ownBlock ∨ (Value.slice av lv cv).ownBlock = some (w'.alloc (.cells #[.int .i64 k2, .int .i64 x2, .string s2, .slice a2 l2 c2] 26)).heap.size) →
      w2.cell? ⟨T, 3, none⟩ = some (.slice a l c) ∧ w2.frozen? ⟨T, 3, none⟩ = false ∧ Hid (DMid m p al len cap w (w2.setCell ⟨T, 3, none⟩ (.slice av lv cv)) T k (j + 1)) ∧ Hid (IsRow .u8 (w2.setCell ⟨T, 3, none⟩ (.slice av lv cv)) al len cap zs)) := by
  have hgw := hP.2.1
  have hT' := (hgw.block _ hz (by simp; omega)).trans hT
  have hTz' : T < w'.heap.size := lt_of_row' hT'
  have hob : ∀ g, (Value.slice a l c).ownBlock = some g → T + 1 ≤ g := fun g hg => by
    rcases hrow.2 with ⟨e, _⟩ | ⟨g', c', cur, e1, e2, e3, _⟩
    · rw [e] at hg; cases hg
    · rw [e1] at hg
      obtain rfl : g' = g := by simpa [Value.ownBlock] using hg
      exact e2
  have hA1 : Below w'.heap.size w' (w'.alloc (.cells #[.int .i64 k2, .int .i64 x2, .string s2, .slice a2 l2 c2] 26)) := (Below.refl _ _).alloc (Nat.le_refl _) _
  refine ⟨by rw [cell_of_row w' _ 3 _ _ _ hT']; rfl, hTz', rowKept hrow fun g hg => ?_, fun w2 av lv cv g1 g2 g3 => ?_⟩
  · rcases hrow.2 with ⟨e, _⟩ | ⟨g', c', cur, e1, e2, e3, _⟩
    · rw [e] at hg; cases hg
    · rw [e1] at hg
      obtain rfl : g' = g := by simpa [Value.ownBlock] using hg
      exact hgw.block g' (lt_of_row' e3) (by simp; omega)
  · have hT2 := (g2.block T (by simp; omega) (fun e => by have := hob _ e.symm; omega)).trans ((hA1.block _ hTz').trans hT')
    have hD := dmid_step hp hT0 hz hR hT hb hj hj2 hM hsm hrow hP hA1 g1 g2 g3
    refine ⟨by rw [cell_of_row w2 _ 3 _ _ _ hT2]; rfl, frozen_of_row w2 _ 3 _ _ hT2, hD, ?_⟩
    obtain ⟨_, _, _, _, _, _, h, _⟩ := hD
    exact hir.grown h hne

end Go.Proofs.Ythjmbbpakidkdaa

/- The model's reading of a term, on: its kinds. -/
namespace Go.Proofs.Ythjmbbpakidkdaa
open Go.RowKit
set_option linter.unusedVariables false

set_option maxHeartbeats 1000000 in
theorem specGet_1 (m : Nat) (hm : m ≤ 7) (b off n cap : Nat) (zs : List Int) (at_ q : Int) (w : World) (hB : Bts n cap zs) (hrow : ∀ i, i < n → w.cell? ⟨b, off + i, none⟩ = some (.int .u8 (zs.getD i 0))) (hg : getNum zs at_ = (1, q, true)) :
    Calls Try.prog 79 #[.slice (some ⟨b, off, none⟩) n cap, .int .i64 at_, .int .i64 (m + 1 : Nat)] w fun e w' => ∃ k x s a l c q ok, e = .returned (.tuple #[.agg #[.int .i64 k, .int .i64 x, .string s, .slice a l c], .int .i64 q, .bool ok]) ∧ Hid (SPost (m + 1) w w' n zs at_ (.agg #[.int .i64 k, .int .i64 x, .string s, .slice a l c]) q ok) := by
  have HN : Hid _ := num_later hB hrow
  have hlt := getNum_lt zs at_ (by rw [hg])
  rw [hg] at hlt
  obtain ⟨x, r, ok, hgx⟩ : ∃ x r ok, getNum zs q = (x, r, ok) := ⟨_, _, _, rfl⟩
  have HP : Hid (∀ Z, Below w.heap.size w Z → SPost (m + 1) w Z n zs at_ (.agg #[.int .i64 1, .int .i64 x, .string ByteArray.empty, .slice none 0 0]) r ok) := fun Z hZ => by
    have hbd := getNum_bd zs q
    rw [hgx] at hbd
    cases ok
    · refine spost_no hZ ?_
      rw [getT_at hg]; unfold getB; rw [if_pos (.inl rfl), hgx, if_neg (by simp)]; rfl
    · have hl2 := getNum_lt zs q (by rw [hgx])
      rw [hgx] at hl2
      refine spost_leaf hZ ⟨by omega, by omega⟩ ⟨by have : -1000000000000 ≤ x := hl2.2.2.1; omega, by have : x ≤ 1000000000000 := hl2.2.2.2; omega⟩ (Nat.zero_le _) (by have : q < r := hl2.1; have : at_ < q := hlt.1; omega) (by have : r ≤ zs.length := hl2.2.1; have := hB.len; omega) ?_
      rw [getT_at hg]; unfold getB; rw [if_pos (.inl rfl), hgx]; rfl
  have hdp : (1 : Int) ≤ ((m + 1 : Nat) : Int) ∧ ((m + 1 : Nat) : Int) ≤ 8 := by omega
  obtain ⟨dp, hdpe⟩ : ∃ dp : Int, ((m + 1 : Nat) : Int) = dp := ⟨_, rfl⟩
  rw [hdpe] at hdp ⊢
  have HG : Hid (getNum zs at_ = (1, q, true)) := hg
  have HGX : Hid (getNum zs q = (x, r, ok)) := hgx
  have hA : ∀ o, Below w.heap.size w (w.alloc o) := fun o => (Below.refl _ _).alloc (Nat.le_refl _) _
  clear hg hgx hlt hB hrow hdpe
  go_enter Try.func79, Try.ntmps79
  go_wp2_with fail
  refine (HN.out _ _ _ _ _ (hA _) HG.out).mono ?_
  rintro e w' ⟨rfl, rfl⟩
  go_wp2_with fail
  refine (HN.out _ _ _ _ _ (two_below _ _ _) HGX.out).mono ?_
  rintro e w' ⟨rfl, rfl⟩
  go_wp2_with fail
  refine bodyPost_ret (v := .tuple #[.agg #[.int .i64 1, .int .i64 x, .string ByteArray.empty, .slice none 0 0], .int .i64 r, .bool ok]) (by first | (simp [results, Try.results79, go_sem]; done) | (simp [results, Try.results79, go_sem]; rfl)) rfl ⟨1, x, ByteArray.empty, none, 0, 0, r, ok, rfl, HP.out _ ?_⟩
  first | exact two_below _ _ _ | (refine set_below (set_below (set_below (set_below (two_below _ _ _) _ _ _ ?_) _ _ _ ?_) _ _ _ ?_) _ _ _ ?_ <;> (try simp)) | (trace_state; done)

set_option maxHeartbeats 1000000 in
theorem specGet_3 (m : Nat) (hm : m ≤ 7) (b off n cap : Nat) (zs : List Int) (at_ q : Int) (w : World) (hB : Bts n cap zs) (hrow : ∀ i, i < n → w.cell? ⟨b, off + i, none⟩ = some (.int .u8 (zs.getD i 0))) (hg : getNum zs at_ = (3, q, true)) :
    Calls Try.prog 79 #[.slice (some ⟨b, off, none⟩) n cap, .int .i64 at_, .int .i64 (m + 1 : Nat)] w fun e w' => ∃ k x s a l c q ok, e = .returned (.tuple #[.agg #[.int .i64 k, .int .i64 x, .string s, .slice a l c], .int .i64 q, .bool ok]) ∧ Hid (SPost (m + 1) w w' n zs at_ (.agg #[.int .i64 k, .int .i64 x, .string s, .slice a l c]) q ok) := by
  have HN : Hid _ := num_later hB hrow
  have hlt := getNum_lt zs at_ (by rw [hg])
  rw [hg] at hlt
  obtain ⟨x, r, ok, hgx⟩ : ∃ x r ok, getNum zs q = (x, r, ok) := ⟨_, _, _, rfl⟩
  have HP : Hid (∀ Z, Below w.heap.size w Z → SPost (m + 1) w Z n zs at_ (.agg #[.int .i64 3, .int .i64 x, .string ByteArray.empty, .slice none 0 0]) r ok) := fun Z hZ => by
    have hbd := getNum_bd zs q
    rw [hgx] at hbd
    cases ok
    · refine spost_no hZ ?_
      rw [getT_at hg]; unfold getB; rw [if_pos (.inr rfl), hgx, if_neg (by simp)]; rfl
    · have hl2 := getNum_lt zs q (by rw [hgx])
      rw [hgx] at hl2
      refine spost_leaf hZ ⟨by omega, by omega⟩ ⟨by have : -1000000000000 ≤ x := hl2.2.2.1; omega, by have : x ≤ 1000000000000 := hl2.2.2.2; omega⟩ (Nat.zero_le _) (by have : q < r := hl2.1; have : at_ < q := hlt.1; omega) (by have : r ≤ zs.length := hl2.2.1; have := hB.len; omega) ?_
      rw [getT_at hg]; unfold getB; rw [if_pos (.inr rfl), hgx]; rfl
  have hdp : (1 : Int) ≤ ((m + 1 : Nat) : Int) ∧ ((m + 1 : Nat) : Int) ≤ 8 := by omega
  obtain ⟨dp, hdpe⟩ : ∃ dp : Int, ((m + 1 : Nat) : Int) = dp := ⟨_, rfl⟩
  rw [hdpe] at hdp ⊢
  have HG : Hid (getNum zs at_ = (3, q, true)) := hg
  have HGX : Hid (getNum zs q = (x, r, ok)) := hgx
  have hA : ∀ o, Below w.heap.size w (w.alloc o) := fun o => (Below.refl _ _).alloc (Nat.le_refl _) _
  clear hg hgx hlt hB hrow hdpe
  go_enter Try.func79, Try.ntmps79
  go_wp2_with fail
  refine (HN.out _ _ _ _ _ (hA _) HG.out).mono ?_
  rintro e w' ⟨rfl, rfl⟩
  go_wp2_with fail
  refine (HN.out _ _ _ _ _ (two_below _ _ _) HGX.out).mono ?_
  rintro e w' ⟨rfl, rfl⟩
  go_wp2_with fail
  refine bodyPost_ret (v := .tuple #[.agg #[.int .i64 3, .int .i64 x, .string ByteArray.empty, .slice none 0 0], .int .i64 r, .bool ok]) (by first | (simp [results, Try.results79, go_sem]; done) | (simp [results, Try.results79, go_sem]; rfl)) rfl ⟨3, x, ByteArray.empty, none, 0, 0, r, ok, rfl, HP.out _ ?_⟩
  first | exact two_below _ _ _ | (refine set_below (set_below (set_below (set_below (two_below _ _ _) _ _ _ ?_) _ _ _ ?_) _ _ _ ?_) _ _ _ ?_ <;> (try simp)) | (trace_state; done)

set_option maxHeartbeats 1000000 in
theorem specGet_2 (m : Nat) (hm : m ≤ 7) (b off n cap : Nat) (zs : List Int) (at_ q : Int) (w : World) (hB : Bts n cap zs) (hrow : ∀ i, i < n → w.cell? ⟨b, off + i, none⟩ = some (.int .u8 (zs.getD i 0))) (hg : getNum zs at_ = (2, q, true)) :
    Calls Try.prog 79 #[.slice (some ⟨b, off, none⟩) n cap, .int .i64 at_, .int .i64 (m + 1 : Nat)] w fun e w' => ∃ k x s a l c q ok, e = .returned (.tuple #[.agg #[.int .i64 k, .int .i64 x, .string s, .slice a l c], .int .i64 q, .bool ok]) ∧ Hid (SPost (m + 1) w w' n zs at_ (.agg #[.int .i64 k, .int .i64 x, .string s, .slice a l c]) q ok) := by
  have HN : Hid _ := num_later hB hrow
  have HT : Hid _ := text_later hB hrow
  have hlt := getNum_lt zs at_ (by rw [hg])
  rw [hg] at hlt
  obtain ⟨x, r, ok, hgx⟩ : ∃ x r ok, getText zs q = (x, r, ok) := ⟨_, _, _, rfl⟩
  have HP : Hid (∀ Z, Below w.heap.size w Z → SPost (m + 1) w Z n zs at_ (.agg #[.int .i64 2, .int .i64 0, .string (strOfNums x), .slice none 0 0]) r ok) := fun Z hZ => by
    cases ok
    · refine spost_no hZ ?_
      rw [getT_at hg]; unfold getB; rw [if_neg (by omega), if_pos rfl, hgx, if_neg (by simp)]; rfl
    · have hl2 := getText_lt zs q (by rw [hgx])
      rw [hgx] at hl2
      refine spost_leaf hZ ⟨by omega, by omega⟩ ⟨by omega, by omega⟩ (by have : x.length ≤ zs.length := hl2.2.2; have := hB.len; have := hB.le; rw [strOfNums_size]; unfold maxLen; omega) (by have : q < r := hl2.1; have : at_ < q := hlt.1; omega) (by have : r ≤ zs.length := hl2.2.1; have := hB.len; omega) ?_
      rw [getT_at hg]; unfold getB; rw [if_neg (by omega), if_pos rfl, hgx]; rfl
  have hdp : (1 : Int) ≤ ((m + 1 : Nat) : Int) ∧ ((m + 1 : Nat) : Int) ≤ 8 := by omega
  obtain ⟨dp, hdpe⟩ : ∃ dp : Int, ((m + 1 : Nat) : Int) = dp := ⟨_, rfl⟩
  rw [hdpe] at hdp ⊢
  have HG : Hid (getNum zs at_ = (2, q, true)) := hg
  have HGX : Hid (getText zs q = (x, r, ok)) := hgx
  have hA : ∀ o, Below w.heap.size w (w.alloc o) := fun o => (Below.refl _ _).alloc (Nat.le_refl _) _
  clear hg hgx hlt hB hrow hdpe
  go_enter Try.func79, Try.ntmps79
  go_wp2_with fail
  refine (HN.out _ _ _ _ _ (hA _) HG.out).mono ?_
  rintro e w' ⟨rfl, rfl⟩
  go_wp2_with fail
  refine (HT.out _ _ _ _ _ (two_below _ _ _) HGX.out).mono ?_
  rintro e w' ⟨rfl, rfl⟩
  go_wp2_with fail
  refine bodyPost_ret (v := .tuple #[.agg #[.int .i64 2, .int .i64 0, .string (strOfNums x), .slice none 0 0], .int .i64 r, .bool ok]) (by first | (simp [results, Try.results79, go_sem]; done) | (simp [results, Try.results79, go_sem]; rfl)) rfl ⟨2, 0, strOfNums x, none, 0, 0, r, ok, rfl, HP.out _ ?_⟩
  first | exact two_below _ _ _ | (refine set_below (set_below (set_below (set_below (two_below _ _ _) _ _ _ ?_) _ _ _ ?_) _ _ _ ?_) _ _ _ ?_ <;> (try simp)) | (trace_state; done)

set_option maxHeartbeats 2000000 in
theorem specGet_list (m : Nat) (hm : m ≤ 7) (H : SGC m) (b off n cap : Nat) (zs : List Int) (at_ k q : Int) (w : World) (hB : Bts n cap zs) (hrow : ∀ i, i < n → w.cell? ⟨b, off + i, none⟩ = some (.int .u8 (zs.getD i 0))) (hg : getNum zs at_ = (k, q, true)) (hk : ¬ k = 1 ∧ ¬ k = 3 ∧ ¬ k = 2) :
    Calls Try.prog 79 #[.slice (some ⟨b, off, none⟩) n cap, .int .i64 at_, .int .i64 (m + 1 : Nat)] w fun e w' => ∃ k x s a l c q ok, e = .returned (.tuple #[.agg #[.int .i64 k, .int .i64 x, .string s, .slice a l c], .int .i64 q, .bool ok]) ∧ Hid (SPost (m + 1) w w' n zs at_ (.agg #[.int .i64 k, .int .i64 x, .string s, .slice a l c]) q ok) := by
  have HN : Hid _ := num_later hB hrow
  have hlt := getNum_lt zs at_ (by rw [hg])
  rw [hg] at hlt
  obtain ⟨hq, hqn, hk0, hk1⟩ : at_ < q ∧ q ≤ zs.length ∧ -1000000000000 ≤ k ∧ k ≤ 1000000000000 := hlt
  obtain ⟨x, r, ok, hgx⟩ : ∃ x r ok, getNum zs q = (x, r, ok) := ⟨_, _, _, rfl⟩
  have hdp : (1 : Int) ≤ ((m + 1 : Nat) : Int) ∧ ((m + 1 : Nat) : Int) ≤ 8 := by omega
  have hdm : ((m + 1 : Nat) : Int) - 1 = m := by omega
  obtain ⟨dp, hdpe⟩ : ∃ dp : Int, ((m + 1 : Nat) : Int) = dp := ⟨_, rfl⟩
  rw [hdpe] at hdp hdm ⊢
  have HG : Hid (getNum zs at_ = (k, q, true)) := hg
  have HGX : Hid (getNum zs q = (x, r, ok)) := hgx
  have HK : Hid (¬ k = 1 ∧ ¬ k = 3 ∧ ¬ k = 2) := hk
  have hA : ∀ o, Below w.heap.size w (w.alloc o) := fun o => (Below.refl _ _).alloc (Nat.le_refl _) _
  have e1 : (k == 1) = false := by simp [hk.1]
  have e2 : (k == 2) = false := by simp [hk.2.2]
  have e3 : (k == 3) = false := by simp [hk.2.1]
  have HBT : Hid (Bts n cap zs) := hB
  have HI : Hid (∀ (at_ : Int) (X : World), Below w.heap.size w X → Calls Try.prog 79 #[.slice (some ⟨b, off, none⟩) n cap, .int .i64 at_, .int .i64 (dp - 1)] X fun e w' => ∃ k x s a l c q ok, e = .returned (.tuple #[.agg #[.int .i64 k, .int .i64 x, .string s, .slice a l c], .int .i64 q, .bool ok]) ∧ Hid (SPost m X w' n zs at_ (.agg #[.int .i64 k, .int .i64 x, .string s, .slice a l c]) q ok)) := fun at_ X hX => by
    rw [hdm]
    exact H b off n cap zs at_ X hB (fun i hi => cell_later hX (hrow i hi))
  clear H
  by_cases hbad : ok = false ∨ ¬ (0 ≤ x ∧ x ≤ 60)
  · have HP : Hid (∀ Z v q, Below w.heap.size w Z → SPost (m + 1) w Z n zs at_ v q false) := fun Z v q hb => spost_no hb (by
      rw [getT_at HG.out]; unfold getB; rw [if_neg (by omega), if_neg hk.2.2, HGX.out, if_neg (fun hc => by
        rcases hbad with h | h
        · rw [h] at hc; exact Bool.noConfusion hc.2.1
        · exact h ⟨hc.2.2.1, hc.2.2.2⟩)]
      rfl)
    clear hg hgx hB hrow hdpe hdm HI hk
    by_cases hok : ok = false
    · subst hok
      go_enter Try.func79, Try.ntmps79
      go_wp2_with fail
      refine (HN.out _ _ _ _ _ (hA _) HG.out).mono ?_
      rintro e w' ⟨rfl, rfl⟩
      go_wp2_with fail
      refine (HN.out _ _ _ _ _ (two_below _ _ _) HGX.out).mono ?_
      rintro e w' ⟨rfl, rfl⟩
      go_wp2_with fail
      refine bodyPost_ret (v := .tuple #[.agg #[.int .i64 k, .int .i64 0, .string ByteArray.empty, .slice none 0 0], .int .i64 0, .bool false]) (by first | (simp [results, Try.results79, go_sem]; done) | (simp [results, Try.results79, go_sem]; rfl)) rfl ⟨k, 0, ByteArray.empty, none, 0, 0, 0, false, rfl, HP.out _ _ _ ?_⟩
      first | exact two_below _ _ _ | (refine set_below (set_below (set_below (set_below (two_below _ _ _) _ _ _ ?_) _ _ _ ?_) _ _ _ ?_) _ _ _ ?_ <;> (try simp)) | (trace_state; done)
    · have hok2 : ok = true := by simpa using hok
      have hx : ¬ (0 ≤ x ∧ x ≤ 60) := by rcases hbad with h | h; exact absurd h hok; exact h
      subst hok2
      have hI := specIn_any x 0 60
      rw [show decide (0 ≤ x ∧ x ≤ 60) = false from decide_eq_false hx] at hI
      clear hbad hok hx
      go_enter Try.func79, Try.ntmps79
      go_wp2_with fail
      refine (HN.out _ _ _ _ _ (hA _) HG.out).mono ?_
      rintro e w' ⟨rfl, rfl⟩
      go_wp2_with fail
      refine (HN.out _ _ _ _ _ (two_below _ _ _) HGX.out).mono ?_
      rintro e w' ⟨rfl, rfl⟩
      go_wp2_with fail
      refine (hI _).mono ?_
      clear hI
      rintro e w' ⟨rfl, rfl⟩
      go_wp2_with fail
      refine bodyPost_ret (v := .tuple #[.agg #[.int .i64 k, .int .i64 0, .string ByteArray.empty, .slice none 0 0], .int .i64 0, .bool false]) (by first | (simp [results, Try.results79, go_sem]; done) | (simp [results, Try.results79, go_sem]; rfl)) rfl ⟨k, 0, ByteArray.empty, none, 0, 0, 0, false, rfl, HP.out _ _ _ ?_⟩
      first | exact two_below _ _ _ | (refine set_below (set_below (set_below (set_below (two_below _ _ _) _ _ _ ?_) _ _ _ ?_) _ _ _ ?_) _ _ _ ?_ <;> (try simp)) | (trace_state; done)
  have hok2 : ok = true := by
    cases ok
    · exact absurd (.inl rfl) hbad
    · rfl
  have hx : 0 ≤ x ∧ x ≤ 60 := Classical.byContradiction fun h => hbad (.inr h)
  subst hok2
  have hl2 := getNum_lt zs q (by rw [hgx])
  rw [hgx] at hl2
  obtain ⟨hr, hrn, _, _⟩ : q < r ∧ r ≤ zs.length ∧ -1000000000000 ≤ x ∧ x ≤ 1000000000000 := hl2
  have hrn' : r ≤ n := by have := hB.len; omega
  have hnb := hB.le
  have hI := specIn_any x 0 60
  rw [show decide (0 ≤ x ∧ x ≤ 60) = true from by simp [hx]] at hI
  obtain ⟨V, hV⟩ : ∃ V, V = (w.alloc (.cells #[.int .i64 0, .int .i64 0, .string ⟨#[]⟩, .slice none 0 0] 26)).alloc (.cells #[.int .i64 k, .int .i64 0, .string ⟨#[]⟩, .slice none 0 0] 26) := ⟨_, rfl⟩
  have hVz : V.heap.size = w.heap.size + 2 := by rw [hV]; simp
  have HM0 : Hid (SMid m w V n zs k r 0 r) := by
    refine ⟨none, 0, 0, ?_, ?_, by rw [hV]; exact two_below _ _ _, [], [], rfl, made_nil m _ _, .inl rfl, by omega, hrn'⟩
    · rw [hV, heap_alloc_old _ _ (by simp)]; exact heap_alloc_new w _
    · rw [hV]
      have := heap_alloc_new (w.alloc (.cells #[.int .i64 0, .int .i64 0, .string ⟨#[]⟩, .slice none 0 0] 26)) (.cells #[.int .i64 k, .int .i64 0, .string ⟨#[]⟩, .slice none 0 0] 26)
      simpa using this
  have HVZ : Hid (V.heap.size = w.heap.size + 2) := hVz
  have HV : Hid (V = _) := hV
  have hx0 := hx.1
  have hx1 := hx.2
  have HX : Hid (0 ≤ x ∧ x ≤ 60) := hx
  clear hg hgx hB hrow hdpe hdm hk hbad hx hqn hrn hV hVz
  go_enter Try.func79, Try.ntmps79
  go_wp2_with fail
  refine (HN.out _ _ _ _ _ (hA _) HG.out).mono ?_
  rintro e w' ⟨rfl, rfl⟩
  go_wp2_with fail
  refine (HN.out _ _ _ _ _ (two_below _ _ _) HGX.out).mono ?_
  rintro e w' ⟨rfl, rfl⟩
  go_wp2_with fail
  refine (hI _).mono ?_
  clear hI
  rintro e w' ⟨rfl, rfl⟩
  go_wp2_with fail
  rw [← HV.out]
  go_loopw [20, 22] (fun p i wr => ∃ (j : Nat) (at2 : Int), (j : Int) ≤ x ∧ i = .int .i64 j ∧ p = .int .i64 at2 ∧ Hid (SMid m w wr n zs k r j at2)) (fun _ i _ => x.toNat - (intOf i).toNat)
  case atStart => exact ⟨0, r, by omega, rfl, rfl, HM0⟩
  case round =>
    obtain ⟨j, at2, hjx, rfl, rfl, HM⟩ := hrel
    obtain ⟨a, l, c, hR, hT, hb, ts, fp, hj, hMd, hC, hq2, hn2⟩ := HM.out
    obtain ⟨cs, hcs⟩ := made_row hMd
    rw [hj] at hcs
    have hTz : w.heap.size + 1 < wr.heap.size := lt_of_row' hT
    by_cases hlt : (j : Int) < x
    · have hC' := HI.out at2 wr hb
      go_wp2_with fail
      refine hC'.mono ?_
      clear hC'
      rintro e w' ⟨k2, x2, s2, a2, l2, c2, q2, ok2, rfl, HP⟩
      have hbw' := HP.out.1
      have hz' : wr.heap.size ≤ w'.heap.size := hbw'.size
      have hR' := (hbw'.block _ (by omega)).trans hR
      have hT' := (hbw'.block _ hTz).trans hT
      have hTz' : w.heap.size + 1 < w'.heap.size := by omega
      have hRz' : w.heap.size < w'.heap.size := by omega
      have hwb' : Below w.heap.size w w' := hb.trans (hbw'.mono hb.size)
      have b0 : w'.cell? ⟨w.heap.size, 0, none⟩ = some (.int .i64 0) := by rw [cell_of_row w' _ 0 _ _ _ hR']; rfl
      have y0 : w'.frozen? ⟨w.heap.size, 0, none⟩ = false := frozen_of_row w' _ 0 _ _ hR'
      have b1 : w'.cell? ⟨w.heap.size, 1, none⟩ = some (.int .i64 0) := by rw [cell_of_row w' _ 1 _ _ _ hR']; rfl
      have y1 : w'.frozen? ⟨w.heap.size, 1, none⟩ = false := frozen_of_row w' _ 1 _ _ hR'
      have b2 : w'.cell? ⟨w.heap.size, 2, none⟩ = some (.string ⟨#[]⟩) := by rw [cell_of_row w' _ 2 _ _ _ hR']; rfl
      have y2 : w'.frozen? ⟨w.heap.size, 2, none⟩ = false := frozen_of_row w' _ 2 _ _ hR'
      have b3 : w'.cell? ⟨w.heap.size, 3, none⟩ = some (.slice none 0 0) := by rw [cell_of_row w' _ 3 _ _ _ hR']; rfl
      have y3 : w'.frozen? ⟨w.heap.size, 3, none⟩ = false := frozen_of_row w' _ 3 _ _ hR'
      have t0 : w'.cell? ⟨w.heap.size + 1, 0, none⟩ = some (.int .i64 k) := by rw [cell_of_row w' _ 0 _ _ _ hT']; rfl
      have t1 : w'.cell? ⟨w.heap.size + 1, 1, none⟩ = some (.int .i64 0) := by rw [cell_of_row w' _ 1 _ _ _ hT']; rfl
      have t2 : w'.cell? ⟨w.heap.size + 1, 2, none⟩ = some (.string ⟨#[]⟩) := by rw [cell_of_row w' _ 2 _ _ _ hT']; rfl
      have t3 : w'.cell? ⟨w.heap.size + 1, 3, none⟩ = some (.slice a l c) := by rw [cell_of_row w' _ 3 _ _ _ hT']; rfl
      have u3 : w'.frozen? ⟨w.heap.size + 1, 3, none⟩ = false := frozen_of_row w' _ 3 _ _ hT'
      cases ok2
      · have HN2 : Hid (getT zs (m + 1) at_ = none) := none_list HK.out HG.out HGX.out (getL_none (came_fail hC (HP.out.2.2 rfl)) (by omega))
        have HPP : Hid (∀ Z v q, Below w.heap.size w Z → SPost (m + 1) w Z n zs at_ v q false) := fun Z v q hb => spost_no hb HN2.out
        have hA' : ∀ o, Below w.heap.size w (w'.alloc o) := fun o => hwb'.alloc hwb'.size _
        clear hR hT hMd hC hcs HM hR' hT' HP
        go_wp2_with fail
        refine bodyPost_ret (v := .tuple #[.agg #[.int .i64 k, .int .i64 0, .string ByteArray.empty, .slice a l c], .int .i64 0, .bool false]) (by first | (simp [results, Try.results79, go_sem, b0, b1, b2, b3, hRz']; done) | (simp [results, Try.results79, go_sem, b0, b1, b2, b3, hRz']; rfl)) rfl ⟨k, 0, ByteArray.empty, a, l, c, 0, false, rfl, HPP.out _ _ _ ?_⟩
        first | (refine set_below (set_below (set_below (set_below (hA' _) _ _ _ ?_) _ _ _ ?_) _ _ _ ?_) _ _ _ ?_ <;> (try simp)) | (refine Below.alloc (set_below (set_below (set_below (set_below hwb' _ _ _ ?_) _ _ _ ?_) _ _ _ ?_) _ _ _ ?_) ?_ _ <;> simp <;> omega) | (trace_state; done)
      · have hcs' : w'.ownsRow (w.heap.size + 2) 26 4 (.slice a l c) j cs := rowKept hcs fun g hg => by
          rcases hcs.2 with ⟨e, _⟩ | ⟨g', c', cur, e1, e2, e3, _⟩
          · rw [e] at hg; cases hg
          · rw [e1] at hg
            obtain rfl : g' = g := by simpa [Value.ownBlock] using hg
            exact hbw'.block g' (lt_of_row' e3)
        have hobn : ∀ g, (Value.slice a l c).ownBlock = some g → w.heap.size + 2 ≤ g := fun g hg => by
          rcases hcs.2 with ⟨e, _⟩ | ⟨g', c', cur, e1, e2, e3, _⟩
          · rw [e] at hg; cases hg
          · rw [e1] at hg
            obtain rfl : g' = g := by simpa [Value.ownBlock] using hg
            exact e2
        have HOB : Hid (∀ g, (Value.slice a l c).ownBlock = some g → w.heap.size + 2 ≤ g) := hobn
        have HT' : Hid _ := hT'
        have HST : Hid (∀ (V2 w2 : World) (av : Option Addr) (lv cv : Nat), Below w'.heap.size w' V2 → w2.ownsRow (w.heap.size + 2) 26 4 (.slice av lv cv) (j + 1) (cs ++ [.int .i64 k2, .int .i64 x2, .string s2, .slice a2 l2 c2]) → V2.grownBy w2 (Value.slice a l c).ownBlock →
            ((Value.slice av lv cv).ownBlock = (Value.slice a l c).ownBlock ∨ (Value.slice av lv cv).ownBlock = some V2.heap.size) → SMid m w (w2.setCell ⟨w.heap.size + 1, 3, none⟩ (.slice av lv cv)) n zs k r (j + 1) q2) :=
          fun V2 w2 av lv cv g1 g2 g3 g4 => smid_step (by omega) hR hT hb hj (by omega) hMd hC hq2 hcs HP.out g1 g2 g3 g4
        obtain ⟨i0, hi, hi0, hi1, hi2⟩ := info_parts Try.infoTerm
        have hjn : j ≤ 60 := by omega
        clear hR hT hMd hC hcs HM hR' hT' hobn HP b0 b1 b2 b3 y0 y1 y2 y3
        go_wp2_with (at_builtin; refine wpList_append_own_at _ rfl (.tmp 105) (.tmp 107) 24 rfl (w.heap.size + 2) 26 i0 (.agg #[.int .i64 0, .int .i64 0, .string ⟨#[]⟩, .slice none 0 0]) 4 56 Try.underlying24 hi hi0 hi1 hi2 rfl (by decide) _ _ _ rfl ((hcs'.alloc _).alloc _) ⟨w'.heap.size + 1, 0, none⟩ 1 1 [.int .i64 k2, .int .i64 x2, .string s2, .slice a2 l2 c2] rfl rfl ?c1 ?c2 ?c3 ?c4 ?c5 ?_)
        case c1 =>
          intro jj u hu
          have := four_new (w'.alloc (.cells #[.int .i64 k2, .int .i64 x2, .string s2, .slice a2 l2 c2] 26)) (.int .i64 k2) (.int .i64 x2) (.string s2) (.slice a2 l2 c2) 26 jj u hu
          simpa using this
        case c2 => intro u hu; simp at hu; rcases hu with rfl | rfl | rfl | rfl <;> rfl
        case c3 => unfold maxLen; omega
        case c4 => omega
        case c5 => simp; omega
        intro v' w2 hown2 hgrow2 _ hat
        obtain ⟨av, lv, cv, rfl⟩ := row_slice hown2
        have hT2 := (hgrow2.block (w.heap.size + 1) (by simp; omega) (fun e => by have := HOB.out _ e.symm; omega)).trans (((two_below w' _ _).block _ hTz').trans HT'.out)
        have v3 : w2.cell? ⟨w.heap.size + 1, 3, none⟩ = some (.slice a l c) := by rw [cell_of_row w2 _ 3 _ _ _ hT2]; rfl
        have v3' : w2.frozen? ⟨w.heap.size + 1, 3, none⟩ = false := frozen_of_row w2 _ 3 _ _ hT2
        have HM2 : Hid (SMid m w (w2.setCell ⟨w.heap.size + 1, 3, none⟩ (.slice av lv cv)) n zs k r (j + 1) q2) := HST.out _ w2 av lv cv (two_below w' _ _) hown2 hgrow2 (by simpa using hat)
        clear hown2 hgrow2 hat HST hcs' hT2 HT' t0 t1 t2 t3 u3
        go_wp2_with fail
        go_roundw
        case rel => exact ⟨j + 1, q2, by omega, by go_num, rfl, HM2⟩
        case measure => simp [intOf]; omega
    · have hjx2 : (j : Int) = x := by omega
      have b0 : wr.cell? ⟨w.heap.size, 0, none⟩ = some (.int .i64 0) := by rw [cell_of_row wr _ 0 _ _ _ hR]; rfl
      have y0 : wr.frozen? ⟨w.heap.size, 0, none⟩ = false := frozen_of_row wr _ 0 _ _ hR
      have b1 : wr.cell? ⟨w.heap.size, 1, none⟩ = some (.int .i64 0) := by rw [cell_of_row wr _ 1 _ _ _ hR]; rfl
      have y1 : wr.frozen? ⟨w.heap.size, 1, none⟩ = false := frozen_of_row wr _ 1 _ _ hR
      have b2 : wr.cell? ⟨w.heap.size, 2, none⟩ = some (.string ⟨#[]⟩) := by rw [cell_of_row wr _ 2 _ _ _ hR]; rfl
      have y2 : wr.frozen? ⟨w.heap.size, 2, none⟩ = false := frozen_of_row wr _ 2 _ _ hR
      have b3 : wr.cell? ⟨w.heap.size, 3, none⟩ = some (.slice none 0 0) := by rw [cell_of_row wr _ 3 _ _ _ hR]; rfl
      have y3 : wr.frozen? ⟨w.heap.size, 3, none⟩ = false := frozen_of_row wr _ 3 _ _ hR
      have t0 : wr.cell? ⟨w.heap.size + 1, 0, none⟩ = some (.int .i64 k) := by rw [cell_of_row wr _ 0 _ _ _ hT]; rfl
      have t1 : wr.cell? ⟨w.heap.size + 1, 1, none⟩ = some (.int .i64 0) := by rw [cell_of_row wr _ 1 _ _ _ hT]; rfl
      have t2 : wr.cell? ⟨w.heap.size + 1, 2, none⟩ = some (.string ⟨#[]⟩) := by rw [cell_of_row wr _ 2 _ _ _ hT]; rfl
      have t3 : wr.cell? ⟨w.heap.size + 1, 3, none⟩ = some (.slice a l c) := by rw [cell_of_row wr _ 3 _ _ _ hT]; rfl
      have HF : Hid (∀ Z, Turned w.heap.size wr Z → SPost (m + 1) w Z n zs at_ (.agg #[.int .i64 k, .int .i64 0, .string ByteArray.empty, .slice a l c]) at2 true) := fun Z hZ =>
        spost_list HK.out ⟨by omega, by omega⟩ HG.out HGX.out HX.out (by omega) (by omega) hn2 hb hMd (by rw [← hjx2, Int.toNat_natCast]; exact hC) hZ
      have hlt' : decide ((j : Int) < x) = false := by simp; omega
      clear hR hT hMd hC hcs HM hlt
      go_wp2_with fail
      refine bodyPost_ret (v := .tuple #[.agg #[.int .i64 k, .int .i64 0, .string ByteArray.empty, .slice a l c], .int .i64 at2, .bool true]) (by first | (simp [results, Try.results79, go_sem, b0, b1, b2, b3]; done) | (simp [results, Try.results79, go_sem, b0, b1, b2, b3]; rfl)) rfl ⟨k, 0, ByteArray.empty, a, l, c, at2, true, rfl, HF.out _ ?_⟩
      exact (((Turned.of_set _ _ _ _).trans (Turned.of_set _ _ _ _)).trans (Turned.of_set _ _ _ _)).trans (Turned.of_set _ _ _ _)

/-- The model's reading of a term, at every depth. -/
theorem specGet_any : ∀ m, m ≤ 8 → SGC m := by
  intro m
  induction m with
  | zero => intro _ b off n cap zs at_ w hB hrow; exact specGet_no 0 (by omega) b off n cap zs at_ w hB hrow (.inl rfl)
  | succ m ih =>
    intro hm b off n cap zs at_ w hB hrow
    by_cases hg : (getNum zs at_).2.2 = true
    case neg => exact specGet_no (m + 1) hm b off n cap zs at_ w hB hrow (.inr hg)
    obtain ⟨k, q, hgk⟩ : ∃ k q, getNum zs at_ = (k, q, true) := ⟨(getNum zs at_).1, (getNum zs at_).2.1, by rw [← hg]⟩
    by_cases h1 : k = 1
    · subst h1; exact specGet_1 m (by omega) b off n cap zs at_ q w hB hrow hgk
    by_cases h3 : k = 3
    · subst h3; exact specGet_3 m (by omega) b off n cap zs at_ q w hB hrow hgk
    by_cases h2 : k = 2
    · subst h2; exact specGet_2 m (by omega) b off n cap zs at_ q w hB hrow hgk
    exact specGet_list m (by omega) (ih (by omega)) b off n cap zs at_ k q w hB hrow hgk ⟨h1, h3, h2⟩

end Go.Proofs.Ythjmbbpakidkdaa
