/- What a draw of a term comes to: a term that is right, of few parts, in new memory; of what was there only the cursor is turned. -/
import Derived.Test.YthjmbbpakidkdaaDrw
import Derived.Test.YthjmbbpakidkdaaSGet2
namespace Go.Proofs.Ythjmbbpakidkdaa
open Go.RowKit
set_option linter.unusedVariables false

/-- A term that is right, and small: short texts, few in each, all storeys. -/
def SmT : (m : Nat) → Tm m → Prop
  | 0, _ => False
  | m + 1, t => Shape t.K t.N t.S t.L.length ∧ t.S.size ≤ 5 ∧ t.L.length ≤ 3 ∧ ∀ u ∈ t.L, SmT m u

/-- What a draw of a term hands on. -/
def DPost (m p : Nat) (a : Option Addr) (len cap : Nat) (w w' : World) (v : Value) : Prop :=
  Cur w' p a len cap ∧ w.grownBy w' (some p) ∧ ∃ (t : Tm m) (fp : List Nat), OwnT m w' v t fp ∧ Fresh w.heap.size w' fp ∧ WfT m t ∧ SmT m t

/-- The contract of a draw of a term. -/
def DrC (m : Nat) : Prop := ∀ (p len cap : Nat) (a : Option Addr) (zs : List Int) (w : World), Cur w p a len cap → IsRow .u8 w a len cap zs → (∀ x, a = some x → 0 < cap → x.block ≠ p) → len ≤ 4611686018427387904 →
  Calls Try.prog 76 #[.pointer (some ⟨p, 0, none⟩), .int .i64 m] w fun e w' => ∃ k x s av l c, e = .returned (.agg #[.int .i64 k, .int .i64 x, .string s, .slice av l c]) ∧ Hid (DPost (m + 1) p a len cap w w' (.agg #[.int .i64 k, .int .i64 x, .string s, .slice av l c]))

theorem ownL_nil (m : Nat) (w : World) : OwnL m w (.slice none 0 0) ([] : List (Tm m)) [] := by
  cases m with
  | zero => exact ⟨⟨_, _, rfl⟩, rfl⟩
  | succ m => exact .inl ⟨rfl, rfl, _, _, rfl⟩
theorem wfL_nil (m : Nat) : WfL m ([] : List (Tm m)) := by
  cases m with
  | zero => trivial
  | succ m => exact ⟨Nat.zero_le _, fun t h => by cases h⟩

theorem dpost_leaf {m p len cap : Nat} {a : Option Addr} {w Z : World} {k x : Int} {s : ByteArray} (hc : Cur Z p a len cap) (hg : w.grownBy Z (some p)) (hs : Shape k x s 0) (h5 : s.size ≤ 5) (hk : 1 ≤ k ∧ k ≤ 3) (hx : -1000000000000 ≤ x ∧ x ≤ 1000000000000) :
    DPost (m + 1) p a len cap w Z (.agg #[.int .i64 k, .int .i64 x, .string s, .slice none 0 0]) :=
  ⟨hc, hg, (k, x, s, []), [], ⟨none, 0, 0, rfl, ownL_nil m Z⟩, ⟨List.nodup_nil, fun g h => by cases h⟩, ⟨⟨by show -9223372036854775808 ≤ k; omega, by show k ≤ 9223372036854775807; omega⟩, ⟨by show -9223372036854775808 ≤ x; omega, by show x ≤ 9223372036854775807; omega⟩, by show s.size ≤ maxLen; unfold maxLen; omega, wfL_nil m⟩, hs, h5, Nat.zero_le _, fun u h => by cases h⟩

def tmA : List ByteArray := [⟨#[111, 107]⟩, ⟨#[115, 116, 111, 112]⟩, ⟨#[97]⟩, ⟨#[116, 114, 117, 101]⟩, ⟨#[97, 100, 100]⟩]
theorem tmA_ok : ∀ x ∈ tmA, Shape 2 0 x 0 ∧ x.size ≤ 5 := by
  intro x hx
  have h1 : ∀ x ∈ tmA, 1 ≤ x.size ∧ x.size ≤ 5 ∧ ∀ i : Fin x.size, decide (97 ≤ (x[i].toNat : Int) ∧ (x[i].toNat : Int) ≤ 122) = true := by
    unfold tmA; simp only [List.forall_mem_cons, List.not_mem_nil, false_implies, implies_true, and_true]; decide
  obtain ⟨g1, g2, g3⟩ := h1 x hx
  exact ⟨(shape2 _ _ _).2 ⟨⟨fun i h => .inl (by have := g3 ⟨i, h⟩; rw [decide_eq_true_eq] at this; exact this), g1, by omega⟩, rfl, rfl⟩, g2⟩
def tmN (y : Int) : List Int := [0, 1, 2, -1, 7, 1000000000000, -1000000000000, y]
theorem tmN_ok (y : Int) (h0 : 0 ≤ y) (h1 : y < 1000) : ∀ x ∈ tmN y, -1000000000000 ≤ x ∧ x ≤ 1000000000000 := by
  intro x hx
  simp only [tmN, List.mem_cons, List.not_mem_nil, or_false] at hx
  omega

/-- Where a draw of a list of terms stands behind j of them. -/
def DMid (m p : Nat) (a : Option Addr) (len cap : Nat) (w wr : World) (T : Nat) (k : Int) (j : Nat) : Prop :=
  ∃ av l c, wr.heap[w.heap.size]? = some (.cells #[.int .i64 0, .int .i64 0, .string ⟨#[]⟩, .slice none 0 0] 26 (0, 0)) ∧ wr.heap[T]? = some (.cells #[.int .i64 k, .int .i64 0, .string ⟨#[]⟩, .slice av l c] 26 (0, 0)) ∧
    Cur wr p a len cap ∧ w.grownBy wr (some p) ∧ ∃ (ts : List (Tm m)) (fp : List Nat), ts.length = j ∧ Made m (T + 1) wr (.slice av l c) ts fp ∧ ∀ u ∈ ts, SmT m u

theorem dmid_step {m p len cap T : Nat} {al : Option Addr} {k : Int} {w wr w' V2 w2 : World} {j : Nat} {a : Option Addr} {l c : Nat} {ts : List (Tm m)} {fp : List Nat} {k2 x2 : Int} {s2 : ByteArray} {a2 : Option Addr} {l2 c2 : Nat} {cs : List Value} {av : Option Addr} {lv cv : Nat}
    (hp : p < w.heap.size) (hT0 : w.heap.size < T) (hz : T < wr.heap.size) (hR : wr.heap[w.heap.size]? = some (.cells #[.int .i64 0, .int .i64 0, .string ⟨#[]⟩, .slice none 0 0] 26 (0, 0))) (hT : wr.heap[T]? = some (.cells #[.int .i64 k, .int .i64 0, .string ⟨#[]⟩, .slice a l c] 26 (0, 0)))
    (hb : w.grownBy wr (some p)) (hj : ts.length = j) (hj2 : j ≤ 1048576) (hM : Made m (T + 1) wr (.slice a l c) ts fp) (hsm : ∀ u ∈ ts, SmT m u) (hrow : wr.ownsRow (T + 1) 26 4 (.slice a l c) j cs)
    (hP : DPost m p al len cap wr w' (.agg #[.int .i64 k2, .int .i64 x2, .string s2, .slice a2 l2 c2])) (hV2 : Below w'.heap.size w' V2)
    (hown : w2.ownsRow (T + 1) 26 4 (.slice av lv cv) (j + 1) (cs ++ [.int .i64 k2, .int .i64 x2, .string s2, .slice a2 l2 c2])) (hgr : V2.grownBy w2 (Value.slice a l c).ownBlock)
    (hat : (Value.slice av lv cv).ownBlock = (Value.slice a l c).ownBlock ∨ (Value.slice av lv cv).ownBlock = some V2.heap.size) : DMid m p al len cap w (w2.setCell ⟨T, 3, none⟩ (.slice av lv cv)) T k (j + 1) := by
  obtain ⟨hc', p1, t, f, q1, g2, g3, g4⟩ := hP
  have z1 := p1.size
  have z2 := hV2.size
  have z3 := hgr.size
  have hcl := hc'.lt
  have hob : ∀ g, (Value.slice a l c).ownBlock = some g → T + 1 ≤ g := fun g hg => by
    rcases hrow.2 with ⟨e, _⟩ | ⟨g', c', cur, e1, e2, e3, _⟩
    · rw [e] at hg; cases hg
    · rw [e1] at hg
      obtain rfl : g' = g := by simpa [Value.ownBlock] using hg
      exact e2
  have hno : ∀ g, g < T + 1 → some g ≠ (Value.slice a l c).ownBlock := fun g hg e => by have := hob g e.symm; omega
  have k1 : ∀ g, g < T + 1 → g ≠ p → w2.heap[g]? = wr.heap[g]? := fun g hg hne => (hgr.block g (by omega) (hno g hg)).trans ((hV2.block g (by omega)).trans (p1.block g (by omega) (by simpa using hne)))
  have hT2 := (k1 T (by omega) (by omega)).trans hT
  have hcw2 : Cur w2 p al len cap := hc'.same ((hgr.block p (by omega) (hno p (by omega))).trans (hV2.block p hcl))
  refine ⟨av, lv, cv, ?_, ?_, cur_set hcw2 (by omega), ?_, ?_⟩
  · rw [heap_setCell_other _ _ _ _ (by show w.heap.size ≠ T; omega)]
    exact (k1 _ (by omega) (by omega)).trans hR
  · exact heap_setCell_same w2 _ 3 _ _ _ hT2
  · have : w.grownBy w2 (some p) := ⟨hgr.os.trans (hV2.os.trans (p1.os.trans hb.os)), hgr.tape.trans (hV2.tape.trans (p1.tape.trans hb.tape)), hgr.output.trans (hV2.output.trans (p1.output.trans hb.output)), by have := hb.size; omega, fun g hg hne => (k1 g (by omega) (by simpa using hne)).trans (hb.block g hg hne)⟩
    exact grown_set this (by omega)
  · cases m with
    | zero => exact False.elim q1
    | succ m =>
      obtain ⟨a', l', c', ev, q1⟩ := q1
      obtain ⟨cs', fps, r1, r2, r3, r4, r5, r6⟩ := hM
      subst hj
      obtain rfl := row_cs r1 hrow
      simp only [Value.agg.injEq] at ev
      have ev2 : ([.int .i64 k2, .int .i64 x2, .string s2, .slice a2 l2 c2] : List Value) = [.int .i64 t.K, .int .i64 t.N, .string t.S, .slice a' l' c'] := by simpa using congrArg Array.toList ev
      rw [ev2] at hown
      subst r3
      have kp : ∀ g, g < wr.heap.size → g ≠ p → V2.heap[g]? = wr.heap[g]? := fun g hg hne => (hV2.block g (by omega)).trans (p1.block g hg (by simpa using hne))
      have hF : Fresh (T + 1) V2 ((Value.slice a l c).ownBlock.toList ++ fps.flatten) := ⟨r4.1, fun g hg => ⟨(r4.2 g hg).1, by have := (r4.2 g hg).2; omega⟩⟩
      have hpn : ∀ g ∈ (Value.slice a l c).ownBlock.toList ++ fps.flatten, V2.heap[g]? = wr.heap[g]? := fun g hg => kp g (r4.2 g hg).2 (by have := (r4.2 g hg).1; omega)
      obtain ⟨fp', hm, _⟩ := made_step (w := V2) (t := t) (f := f) (rowKept r1 fun g hg => hpn g (List.mem_append_left _ (by rw [hg]; exact List.mem_singleton.2 rfl))) r2 hF r5 (r6.frame fun g hg => hpn g (List.mem_append_right _ hg))
        (q1.frame fun g hg => hV2.block g (g2.2 g hg).2) ⟨g2.1, fun g hg => ⟨by have := (g2.2 g hg).1; omega, by have := (g2.2 g hg).2; omega⟩⟩ (fun g hg hf => by have := (g2.2 g hg).1; have := (r4.2 g hf).2; omega) g3 (by omega) (by omega) hown hgr hat
      refine ⟨ts ++ [t], fp', by simp, hm.frame (fun g hg => ?_) (by simp), fun u hu => ?_⟩
      · obtain ⟨_, _, _, _, _, h4, _⟩ := hm
        exact heap_setCell_other _ _ _ _ (by have := (h4.2 g hg).1; show g ≠ T; omega)
      · rcases List.mem_append.1 hu with h | h
        · exact hsm u h
        · obtain rfl := List.mem_singleton.1 h
          exact g4

theorem dmid_aft {m p len cap T : Nat} {al : Option Addr} {zs : List Int} {k : Int} {w wr w' : World} {j : Nat} {a : Option Addr} {l c : Nat} {ts : List (Tm m)} {fp : List Nat} {k2 x2 : Int} {s2 : ByteArray} {a2 : Option Addr} {l2 c2 : Nat} {cs : List Value}
    (hp : p < w.heap.size) (hT0 : w.heap.size < T) (hz : T < wr.heap.size) (hR : wr.heap[w.heap.size]? = some (.cells #[.int .i64 0, .int .i64 0, .string ⟨#[]⟩, .slice none 0 0] 26 (0, 0))) (hT : wr.heap[T]? = some (.cells #[.int .i64 k, .int .i64 0, .string ⟨#[]⟩, .slice a l c] 26 (0, 0)))
    (hb : w.grownBy wr (some p)) (hj : ts.length = j) (hj2 : j ≤ 1048576) (hM : Made m (T + 1) wr (.slice a l c) ts fp) (hsm : ∀ u ∈ ts, SmT m u) (hrow : wr.ownsRow (T + 1) 26 4 (.slice a l c) j cs)
    (hir : IsRow .u8 w al len cap zs) (hne : ∀ x, al = some x → 0 < cap → x.block ≠ p) (hP : DPost m p al len cap wr w' (.agg #[.int .i64 k2, .int .i64 x2, .string s2, .slice a2 l2 c2])) :
    w'.cell? ⟨T, 3, none⟩ = some (.slice a l c) ∧ T < w'.heap.size ∧ w'.ownsRow (T + 1) 26 4 (.slice a l c) j cs ∧
    Hid (∀ (w2 : World) (av : Option Addr) (lv cv : Nat), w2.ownsRow (T + 1) 26 4 (.slice av lv cv) (j + 1) (cs ++ [.int .i64 k2, .int .i64 x2, .string s2, .slice a2 l2 c2]) → (w'.alloc (.cells #[.int .i64 k2, .int .i64 x2, .string s2, .slice a2 l2 c2] 26)).grownBy w2 (Value.slice a l c).ownBlock →
      ((Value.slice av lv cv).ownBlock = (Value.slice a l c).ownBlock ∨ (Value.slice av lv cv).ownBlock = some (w'.alloc (.cells #[.int .i64 k2, .int .i64 x2, .string s2, .slice a2 l2 c2] 26)).heap.size) →
      w2.cell? ⟨T, 3, none⟩ = some (.slice a l c) ∧ w2.frozen? ⟨T, 3, none⟩ = false ∧ Hid (DMid m p al len cap w (w2.setCell ⟨T, 3, none⟩ (.slice av lv cv)) T k (j + 1)) ∧ Hid (IsRow .u8 (w2.setCell ⟨T, 3, none⟩ (.slice av lv cv)) al len cap zs)) := by
  have hgw := hP.2.1
  have hT' := (hgw.block _ hz (by simp; omega)).trans hT
  have hTz' : T < w'.heap.size := lt_of_row' hT'
  have hob : ∀ g, (Value.slice a l c).ownBlock = some g → T + 1 ≤ g := fun g hg => by
    rcases hrow.2 with ⟨e, _⟩ | ⟨g', c', cur, e1, e2, e3, _⟩
    · rw [e] at hg; cases hg
    · rw [e1] at hg
      obtain rfl : g' = g := by simpa [Value.ownBlock] using hg
      exact e2
  have hA1 : Below w'.heap.size w' (w'.alloc (.cells #[.int .i64 k2, .int .i64 x2, .string s2, .slice a2 l2 c2] 26)) := (Below.refl _ _).alloc (Nat.le_refl _) _
  refine ⟨by rw [cell_of_row w' _ 3 _ _ _ hT']; rfl, hTz', rowKept hrow fun g hg => ?_, fun w2 av lv cv g1 g2 g3 => ?_⟩
  · rcases hrow.2 with ⟨e, _⟩ | ⟨g', c', cur, e1, e2, e3, _⟩
    · rw [e] at hg; cases hg
    · rw [e1] at hg
      obtain rfl : g' = g := by simpa [Value.ownBlock] using hg
      exact hgw.block g' (lt_of_row' e3) (by simp; omega)
  · have hT2 := (g2.block T (by simp; omega) (fun e => by have := hob _ e.symm; omega)).trans ((hA1.block _ hTz').trans hT')
    have hD := dmid_step hp hT0 hz hR hT hb hj hj2 hM hsm hrow hP hA1 g1 g2 g3
    refine ⟨by rw [cell_of_row w2 _ 3 _ _ _ hT2]; rfl, frozen_of_row w2 _ 3 _ _ hT2, hD, ?_⟩
    obtain ⟨_, _, _, _, _, _, h, _⟩ := hD
    exact hir.grown h hne

end Go.Proofs.Ythjmbbpakidkdaa
