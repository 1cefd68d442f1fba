/- The model's reading of a term: what is read of the bytes, in new memory. -/
import Derived.Test.YthjmbbpakidkdaaIGet6
namespace Go.Proofs.Ythjmbbpakidkdaa
open Go.RowKit
set_option linter.unusedVariables false

/-- What the model's reading of a term hands on. -/
def SPost (m : Nat) (w w' : World) (n : Nat) (zs : List Int) (at_ : Int) (v : Value) (q : Int) (ok : Bool) : Prop :=
  Below w.heap.size w w' ∧ (ok = true → ∃ (t : Tm m) (fp : List Nat), OwnT m w' v t fp ∧ Fresh w.heap.size w' fp ∧ WfT m t ∧ Came zs m at_ t q ∧ at_ < q ∧ q ≤ n) ∧ (ok = false → getT zs m at_ = none)

/-- The contract of the model's reading of a term. -/
def SGC (m : Nat) : Prop := ∀ (b off n cap : Nat) (zs : List Int) (at_ : Int) (w : World), Bts n cap zs → (∀ i, i < n → w.cell? ⟨b, off + i, none⟩ = some (.int .u8 (zs.getD i 0))) →
  Calls Try.prog 79 #[.slice (some ⟨b, off, none⟩) n cap, .int .i64 at_, .int .i64 m] w fun e w' => ∃ k x s a l c q ok, e = .returned (.tuple #[.agg #[.int .i64 k, .int .i64 x, .string s, .slice a l c], .int .i64 q, .bool ok]) ∧ Hid (SPost m w w' n zs at_ (.agg #[.int .i64 k, .int .i64 x, .string s, .slice a l c]) q ok)

/-- Where the model's reading of a list stands behind j of them. -/
def SMid (m : Nat) (w wr : World) (n : Nat) (zs : List Int) (k r : Int) (j : Nat) (at2 : Int) : Prop :=
  ∃ a l c, wr.heap[w.heap.size]? = some (.cells #[.int .i64 0, .int .i64 0, .string ⟨#[]⟩, .slice none 0 0] 26 (0, 0)) ∧ wr.heap[w.heap.size + 1]? = some (.cells #[.int .i64 k, .int .i64 0, .string ⟨#[]⟩, .slice a l c] 26 (0, 0)) ∧
    Below w.heap.size w wr ∧ ∃ (ts : List (Tm m)) (fp : List Nat), ts.length = j ∧ Made m (w.heap.size + 2) wr (.slice a l c) ts fp ∧ CameL zs m j r ts at2 ∧ r + j ≤ at2 ∧ at2 ≤ n

theorem made_row {m B : Nat} {w : World} {v : Value} {ts : List (Tm m)} {fp : List Nat} (h : Made m B w v ts fp) : ∃ cs, w.ownsRow B 26 4 v ts.length cs := by
  obtain ⟨cs, _, h, _⟩ := h
  exact ⟨cs, h⟩

theorem row_cs {w : World} {B n : Nat} {v : Value} {cs cs' : List Value} (r1 : w.ownsRow B 26 4 v n cs') (hcs : w.ownsRow B 26 4 v n cs) : cs' = cs := by
  rcases r1.2 with ⟨e1, e2⟩ | ⟨g1, c1, cur1, e1, _, e3, _, _, _, e7⟩
  · have l1 := r1.1
    have l2 := hcs.1
    rw [e2] at l1 l2
    rw [List.length_eq_zero_iff.1 (show cs'.length = 0 by omega), List.length_eq_zero_iff.1 (show cs.length = 0 by omega)]
  · rcases hcs.2 with ⟨d1, d2⟩ | ⟨g2, c2, cur2, d1, _, d3, _, _, _, d7⟩
    · rw [d1] at e1; cases e1
    · rw [d1] at e1
      simp only [Value.slice.injEq, Option.some.injEq, Addr.mk.injEq, and_true, true_and] at e1
      obtain ⟨rfl, rfl⟩ := e1
      rw [e3] at d3
      simp only [Option.some.injEq, Obj.cells.injEq, and_true] at d3
      subst d3
      rw [← e7, ← d7]

/-- One more of them. -/
theorem smid_step {m n : Nat} {zs : List Int} {k r at2 q2 : Int} {w wr w' V2 w2 : World} {j : Nat} {a : Option Addr} {l c : Nat} {ts : List (Tm m)} {fp : List Nat} {k2 x2 : Int} {s2 : ByteArray} {a2 : Option Addr} {l2 c2 : Nat} {cs : List Value} {av : Option Addr} {lv cv : Nat}
    (hz : w.heap.size + 2 ≤ wr.heap.size) (hR : wr.heap[w.heap.size]? = some (.cells #[.int .i64 0, .int .i64 0, .string ⟨#[]⟩, .slice none 0 0] 26 (0, 0))) (hT : wr.heap[w.heap.size + 1]? = some (.cells #[.int .i64 k, .int .i64 0, .string ⟨#[]⟩, .slice a l c] 26 (0, 0)))
    (hb : Below w.heap.size w wr) (hj : ts.length = j) (hj2 : j ≤ 1048576) (hM : Made m (w.heap.size + 2) wr (.slice a l c) ts fp) (hC : CameL zs m j r ts at2) (hq : r + j ≤ at2) (hrow : wr.ownsRow (w.heap.size + 2) 26 4 (.slice a l c) j cs)
    (hP : SPost m wr w' n zs at2 (.agg #[.int .i64 k2, .int .i64 x2, .string s2, .slice a2 l2 c2]) q2 true) (hV2 : Below w'.heap.size w' V2)
    (hown : w2.ownsRow (w.heap.size + 2) 26 4 (.slice av lv cv) (j + 1) (cs ++ [.int .i64 k2, .int .i64 x2, .string s2, .slice a2 l2 c2])) (hgr : V2.grownBy w2 (Value.slice a l c).ownBlock)
    (hat : (Value.slice av lv cv).ownBlock = (Value.slice a l c).ownBlock ∨ (Value.slice av lv cv).ownBlock = some V2.heap.size) : SMid m w (w2.setCell ⟨w.heap.size + 1, 3, none⟩ (.slice av lv cv)) n zs k r (j + 1) q2 := by
  obtain ⟨p1, p2, _⟩ := hP
  obtain ⟨t, f, q1, g2, g3, g4, g5, g6⟩ := p2 rfl
  have z1 := p1.size
  have z2 := hV2.size
  have z3 := hgr.size
  have hob : ∀ g, (Value.slice a l c).ownBlock = some g → w.heap.size + 2 ≤ g := fun g hg => by
    rcases hrow.2 with ⟨e, _⟩ | ⟨g', c', cur, e1, e2, e3, _⟩
    · rw [e] at hg; cases hg
    · rw [e1] at hg
      obtain rfl : g' = g := by simpa [Value.ownBlock] using hg
      exact e2
  have hno : ∀ g, g < w.heap.size + 2 → some g ≠ (Value.slice a l c).ownBlock := fun g hg e => by have := hob g e.symm; omega
  have k1 : ∀ g, g < w.heap.size + 2 → w2.heap[g]? = wr.heap[g]? := fun g hg => (hgr.block g (by omega) (hno g hg)).trans ((hV2.block g (by omega)).trans (p1.block g (by omega)))
  have hT2 := (k1 (w.heap.size + 1) (by omega)).trans hT
  refine ⟨av, lv, cv, ?_, ?_, ?_, ?_⟩
  · rw [heap_setCell_other _ _ _ _ (by show w.heap.size ≠ w.heap.size + 1; omega)]
    exact (k1 _ (by omega)).trans hR
  · exact heap_setCell_same w2 _ 3 _ _ _ hT2
  · have : Below w.heap.size w w2 := ⟨hgr.os.trans (hV2.os.trans (p1.os.trans hb.os)), hgr.tape.trans (hV2.tape.trans (p1.tape.trans hb.tape)), hgr.output.trans (hV2.output.trans (p1.output.trans hb.output)), by omega, fun g hg => (k1 g (by omega)).trans (hb.block g hg)⟩
    exact this.setCell (by simp) _
  · cases m with
    | zero => exact False.elim q1
    | succ m =>
      obtain ⟨a', l', c', ev, q1⟩ := q1
      obtain ⟨cs', fps, r1, r2, r3, r4, r5, r6⟩ := hM
      subst hj
      obtain rfl := row_cs r1 hrow
      simp only [Value.agg.injEq] at ev
      have ev2 : ([.int .i64 k2, .int .i64 x2, .string s2, .slice a2 l2 c2] : List Value) = [.int .i64 t.K, .int .i64 t.N, .string t.S, .slice a' l' c'] := by simpa using congrArg Array.toList ev
      rw [ev2] at hown
      subst r3
      have kp : ∀ g, g < wr.heap.size → V2.heap[g]? = wr.heap[g]? := fun g hg => (hV2.block g (by omega)).trans (p1.block g hg)
      have hF : Fresh (w.heap.size + 2) V2 ((Value.slice a l c).ownBlock.toList ++ fps.flatten) := ⟨r4.1, fun g hg => ⟨(r4.2 g hg).1, by have := (r4.2 g hg).2; omega⟩⟩
      have hpn : ∀ g ∈ (Value.slice a l c).ownBlock.toList ++ fps.flatten, V2.heap[g]? = wr.heap[g]? := fun g hg => kp g (r4.2 g hg).2
      obtain ⟨fp', hm, _⟩ := made_step (w := V2) (t := t) (f := f) (rowKept r1 fun g hg => hpn g (List.mem_append_left _ (by rw [hg]; exact List.mem_singleton.2 rfl))) r2 hF r5 (r6.frame fun g hg => hpn g (List.mem_append_right _ hg))
        (q1.frame fun g hg => hV2.block g (g2.2 g hg).2) ⟨g2.1, fun g hg => ⟨by have := (g2.2 g hg).1; omega, by have := (g2.2 g hg).2; omega⟩⟩ (fun g hg hf => by have := (g2.2 g hg).1; have := (r4.2 g hf).2; omega) g3 (by omega) (by omega) hown hgr hat
      refine ⟨ts ++ [t], fp', by simp, hm.frame (fun g hg => ?_) (by simp), came_step hC g4, by omega, g6⟩
      obtain ⟨_, _, _, _, _, h4, _⟩ := hm
      exact heap_setCell_other _ _ _ _ (by have := (h4.2 g hg).1; show g ≠ w.heap.size + 1; omega)

/-- A list that was read, as a term of its kind. -/
theorem came_list {m : Nat} {zs : List Int} {at_ k q x r at2 : Int} {ts : List (Tm m)} (hk : ¬ k = 1 ∧ ¬ k = 3 ∧ ¬ k = 2) (h1 : getNum zs at_ = (k, q, true)) (h2 : getNum zs q = (x, r, true)) (hx : 0 ≤ x ∧ x ≤ 60) (h : CameL zs m x.toNat r ts at2) :
    Came zs (m + 1) at_ ((k, 0, ByteArray.empty, ts) : Int × Int × ByteArray × List (Tm m)) at2 := by
  unfold Came
  rw [getT_at h1]
  unfold getB
  rw [if_neg (by omega), if_neg hk.2.2, h2]
  by_cases h45 : k = 4 ∨ k = 5
  · rw [if_pos ⟨h45, rfl, hx.1, hx.2⟩]
    dsimp only
    rcases h with h | ⟨h, gn⟩
    · rw [h]; exact .inl rfl
    · rw [h]; exact .inr ⟨rfl, fun ho => gn ho.2⟩
  · rw [if_neg (fun hc => h45 hc.1)]
    refine .inr ⟨rfl, fun ho => ?_⟩
    have := shape_kind ho.1
    have : k = 1 ∨ k = 2 ∨ k = 3 ∨ k = 4 ∨ k = 5 := this
    omega

theorem none_list {m : Nat} {zs : List Int} {at_ k q x r : Int} (hk : ¬ k = 1 ∧ ¬ k = 3 ∧ ¬ k = 2) (h1 : getNum zs at_ = (k, q, true)) (h2 : getNum zs q = (x, r, true)) (h : getL (getT zs m) x.toNat r = none) : getT zs (m + 1) at_ = none := by
  rw [getT_at h1]
  unfold getB
  rw [if_neg (by omega), if_neg hk.2.2, h2]
  split
  · dsimp only; rw [h]; rfl
  · rfl

/-- What is handed out at the end of a list. -/
theorem spost_list {m n : Nat} {zs : List Int} {at_ k q x r at2 : Int} {w wr Z : World} {a : Option Addr} {l c : Nat} {ts : List (Tm m)} {fp : List Nat} (hk : ¬ k = 1 ∧ ¬ k = 3 ∧ ¬ k = 2) (hkb : I64 k) (h1 : getNum zs at_ = (k, q, true)) (h2 : getNum zs q = (x, r, true)) (hx : 0 ≤ x ∧ x ≤ 60) (hat : at_ < r) (hr : r ≤ at2) (hn : at2 ≤ n)
    (hb : Below w.heap.size w wr) (hM : Made m (w.heap.size + 2) wr (.slice a l c) ts fp) (h : CameL zs m x.toNat r ts at2) (hZ : Turned w.heap.size wr Z) : SPost (m + 1) w Z n zs at_ (.agg #[.int .i64 k, .int .i64 0, .string ByteArray.empty, .slice a l c]) at2 true := by
  obtain ⟨a', l', c', fp', e, q1, q2, q3⟩ := hM.own
  refine ⟨hb.trans (hZ.below (Nat.le_refl _) hb.size), fun _ => ⟨((k, 0, ByteArray.empty, ts) : Int × Int × ByteArray × List (Tm m)), fp', ⟨a, l, c, rfl, ?_⟩, ⟨q2.1, fun g hg => ⟨by have := (q2.2 g hg).1; omega, by have := (q2.2 g hg).2; have := hZ.size; omega⟩⟩, ⟨hkb, ⟨by show _ ≤ (0 : Int); omega, by show (0 : Int) ≤ _; omega⟩, Nat.zero_le _, q3⟩, came_list hk h1 h2 hx h, by omega, hn⟩, (fun e => Bool.noConfusion e)⟩
  exact q1.frame fun g hg => hZ.block g (q2.2 g hg).2 (by have := (q2.2 g hg).1; omega)

end Go.Proofs.Ythjmbbpakidkdaa
