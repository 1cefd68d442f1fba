/- The draw of a term of which is told what to send. -/
import Derived.Test.YtegfbpidlopfoaaCv2M
import Derived.Test.YtegfbpidlopfoaaBd2M
import Derived.Test.YtegfbpidlopfoaaCpM
import Derived.Test.YtegfbpidlopfoaaXm2M
import Derived.Deep.RegionHeld3
import Derived.Deep.DeepCutAuto
namespace Go.Proofs.Ytegfbpidlopfoaa
open Go.RowKit
set_option linter.unusedVariables false

/-- Where the draw stands. -/
def DzS (w wr : World) (p : Nat) (a : Option Addr) (len cap : Nat) (T : Nat) (k : Int) (av : Option Addr) (l c : Nat) (ts : List (Tm 3)) : Prop :=
  wr.heap[w.heap.size]? = some (.cells #[.int .i64 0, .int .i64 0, .string ⟨#[]⟩, .slice none 0 0] 26 (0, 0)) ∧ wr.heap[T]? = some (.cells #[.int .i64 k, .int .i64 0, .string ⟨#[]⟩, .slice av l c] 26 (0, 0)) ∧ Cur wr p a len cap ∧ Below w.heap.size w wr ∧ (∃ fp, Made 3 (T + 1) wr (.slice av l c) ts fp) ∧ ∀ u ∈ ts, SmT 3 u

/-- It stays where nothing but the cursor is turned. -/
theorem DzS.grown {w wr w' : World} {p len cap T l c : Nat} {a av : Option Addr} {k : Int} {ts : List (Tm 3)} (h : DzS w wr p a len cap T k av l c ts) (hg : wr.grownBy w' (some p)) (hc : Cur w' p a len cap) (hp : w.heap.size < p) (hpT : p < T) : DzS w w' p a len cap T k av l c ts := by
  obtain ⟨h0, h1, h2, h3, ⟨fp, h4⟩, h5⟩ := h
  refine ⟨(hg.block _ (lt_of_row' h0) (by simp; omega)).trans h0, (hg.block T (lt_of_row' h1) (by simp; omega)).trans h1, hc, h3.grown hg h3.size (fun k hk => by cases hk; omega), ⟨fp, h4.frame (fun g hg' => hg.block g ?_ ?_) hg.size⟩, h5⟩
  · obtain ⟨_, _, _, _, _, q, _⟩ := h4
    exact (q.2 g hg').2
  · obtain ⟨_, _, _, _, _, q, _⟩ := h4
    have := (q.2 g hg').1
    intro e
    have := Option.some.inj e
    omega

theorem DzS.later {w wr w' : World} {p len cap T l c : Nat} {a av : Option Addr} {k : Int} {ts : List (Tm 3)} (h : DzS w wr p a len cap T k av l c ts) (hb : Below wr.heap.size wr w') : DzS w w' p a len cap T k av l c ts := by
  obtain ⟨h0, h1, h2, h3, ⟨fp, h4⟩, h5⟩ := h
  refine ⟨(hb.block _ (lt_of_row' h0)).trans h0, (hb.block T (lt_of_row' h1)).trans h1, h2.same (hb.block _ h2.lt), h3.trans (hb.mono h3.size), ⟨fp, h4.frame (fun g hg' => hb.block g ?_) hb.size⟩, h5⟩
  obtain ⟨_, _, _, _, _, q, _⟩ := h4
  exact (q.2 g hg').2

/-- One term more. -/
theorem DzS.step {w wr V2 w2 : World} {p len cap T l c : Nat} {a av : Option Addr} {k : Int} {ts : List (Tm 3)} {t : Tm 3} {f : List Nat} {cs : List Value} {lv : Value} {av2 : Option Addr} {lv2 cv2 : Nat} (h : DzS w wr p a len cap T k av l c ts) (hp : w.heap.size < p) (hpT : p < T) (hj : ts.length ≤ 100)
    (hrow : wr.ownsRow (T + 1) 26 4 (.slice av l c) ts.length cs) (hc2 : Cur V2 p a len cap) (hg : wr.grownBy V2 (some p)) (ht : OwnL 2 V2 lv t.L f) (hf : Fresh wr.heap.size V2 f) (hwt : WfT 3 t) (hst : SmT 3 t)
    (hown : w2.ownsRow (T + 1) 26 4 (.slice av2 lv2 cv2) (ts.length + 1) (cs ++ [.int .i64 t.K, .int .i64 t.N, .string t.S, lv])) (hgr : V2.grownBy w2 (Value.slice av l c).ownBlock) (hat : (Value.slice av2 lv2 cv2).ownBlock = (Value.slice av l c).ownBlock ∨ (Value.slice av2 lv2 cv2).ownBlock = some V2.heap.size) :
    w2.cell? ⟨T, 3, none⟩ = some (.slice av l c) ∧ w2.frozen? ⟨T, 3, none⟩ = false ∧ Hid (DzS w (w2.setCell ⟨T, 3, none⟩ (.slice av2 lv2 cv2)) p a len cap T k av2 lv2 cv2 (ts ++ [t])) := by
  obtain ⟨h0, h1, hc, hb, ⟨fp, hM⟩, hsm⟩ := h
  have z0 := lt_of_row' h0
  have z1 := lt_of_row' h1
  have z2 := hg.size
  have z3 := hgr.size
  have hcl := hc2.lt
  have hob : ∀ g, (Value.slice av l c).ownBlock = some g → T + 1 ≤ g := fun g hg => by
    rcases hrow.2 with ⟨e, _⟩ | ⟨g', c', cur, e1, e2, e3, _⟩
    · rw [e] at hg; cases hg
    · rw [e1] at hg
      obtain rfl : g' = g := by simpa [Value.ownBlock] using hg
      exact e2
  have hno : ∀ g, g < T + 1 → some g ≠ (Value.slice av l c).ownBlock := fun g hg e => by have := hob g e.symm; omega
  have k1 : ∀ g, g < T + 1 → g ≠ p → w2.heap[g]? = wr.heap[g]? := fun g hlt hne => (hgr.block g (by omega) (hno g hlt)).trans (hg.block g (by omega) (by simpa using hne))
  have hT2 := (k1 T (by omega) (by omega)).trans h1
  have hcw2 : Cur w2 p a len cap := hc2.same (hgr.block p (by omega) (hno p (by omega)))
  refine ⟨by rw [cell_of_row w2 _ 3 _ _ _ hT2]; rfl, frozen_of_row w2 _ 3 _ _ hT2, ?_, ?_, cur_set hcw2 (by omega), ?_, ?_, ?_⟩
  · rw [heap_setCell_other _ _ _ _ (by show w.heap.size ≠ T; omega)]
    exact (k1 _ (by omega) (by omega)).trans h0
  · exact heap_setCell_same w2 _ 3 _ _ _ hT2
  · have hbV : Below w.heap.size w V2 := hb.grown hg hb.size (fun k hk => by cases hk; omega)
    have hb2 : Below w.heap.size w w2 := hbV.grown hgr hbV.size (fun k hk => by have := hob k hk; omega)
    exact hb2.setCell (p := ⟨T, 3, none⟩) (by show w.heap.size ≤ T; omega) _
  · obtain ⟨cs', fps, r1, r2, r3, r4, r5, r6⟩ := hM
    obtain rfl := row_cs r1 hrow
    subst r3
    have hF : Fresh (T + 1) V2 ((Value.slice av l c).ownBlock.toList ++ fps.flatten) := ⟨r4.1, fun g hg => ⟨(r4.2 g hg).1, by have := (r4.2 g hg).2; omega⟩⟩
    have hpn : ∀ g ∈ (Value.slice av l c).ownBlock.toList ++ fps.flatten, V2.heap[g]? = wr.heap[g]? := fun g hm => hg.block g (r4.2 g hm).2 (by have := (r4.2 g hm).1; intro e; have := Option.some.inj e; omega)
    obtain ⟨fp', hm, _⟩ := made_step (w := V2) (t := t) (f := f) (rowKept r1 fun g hg => hpn g (List.mem_append_left _ (by rw [hg]; exact List.mem_singleton.2 rfl))) r2 hF r5 (r6.frame fun g hg => hpn g (List.mem_append_right _ hg))
      ht ⟨hf.1, fun g hg => ⟨by have := (hf.2 g hg).1; omega, (hf.2 g hg).2⟩⟩ (fun g hg hf' => by have := (hf.2 g hg).1; have := (r4.2 g hf').2; omega) hwt (by omega) (by omega) hown hgr hat
    exact ⟨fp', hm.frame (fun g hg => by
      obtain ⟨_, _, _, _, _, h4, _⟩ := hm
      exact heap_setCell_other _ _ _ _ (by have := (h4.2 g hg).1; show g ≠ T; omega)) (by simp)⟩
  · intro u hu
    rcases List.mem_append.1 hu with h | h
    · exact hsm u h
    · obtain rfl := List.mem_singleton.1 h
      exact hst

/-- What the first part is. -/
def ToP (k n : Int) (s : ByteArray) : Prop := Shape k n s 0 ∧ s.size ≤ 5 ∧ I64 k ∧ I64 n

/-- Behind the draw of the second part. -/
theorem dz_tuple {w wr w' : World} {p len cap T l c : Nat} {a av : Option Addr} {k : Int} {ts : List (Tm 3)} {cs : List Value} {k1 n1 k2 n2 : Int} {s1 s2 : ByteArray} {a1 a2 : Option Addr} {c1 l2 c2 n : Nat} (h : DzS w wr p a len cap T k av l c ts) (hp : w.heap.size < p) (hpT : p < T) (hj : ts.length ≤ 100) (hn : ts.length = n)
    (hrow : wr.ownsRow (T + 1) 26 4 (.slice av l c) n cs) (hto : ToP k1 n1 s1) (hP : DPost 2 p a len cap wr w' (.agg #[.int .i64 k2, .int .i64 n2, .string s2, .slice a2 l2 c2])) :
    w'.cell? ⟨T, 3, none⟩ = some (.slice av l c) ∧ T < w'.heap.size ∧ w'.ownsRow (T + 1) 26 4 (.slice av l c) n cs ∧
    Hid (∀ (w2 : World) (av2 : Option Addr) (lv2 cv2 : Nat), w2.ownsRow (T + 1) 26 4 (.slice av2 lv2 cv2) (n + 1) (cs ++ [.int .i64 4, .int .i64 0, .string ⟨#[]⟩, .slice (some ⟨w'.heap.size, 0, none⟩) 2 2]) →
      ((w'.alloc (.cells #[.int .i64 k1, .int .i64 n1, .string s1, .slice a1 0 c1, .int .i64 k2, .int .i64 n2, .string s2, .slice a2 l2 c2] 26)).alloc (.cells #[.int .i64 4, .int .i64 0, .string ⟨#[]⟩, .slice (some ⟨w'.heap.size, 0, none⟩) 2 2] 26)).grownBy w2 (Value.slice av l c).ownBlock →
      ((Value.slice av2 lv2 cv2).ownBlock = (Value.slice av l c).ownBlock ∨ (Value.slice av2 lv2 cv2).ownBlock = some ((w'.alloc (.cells #[.int .i64 k1, .int .i64 n1, .string s1, .slice a1 0 c1, .int .i64 k2, .int .i64 n2, .string s2, .slice a2 l2 c2] 26)).alloc (.cells #[.int .i64 4, .int .i64 0, .string ⟨#[]⟩, .slice (some ⟨w'.heap.size, 0, none⟩) 2 2] 26)).heap.size) →
      w2.cell? ⟨T, 3, none⟩ = some (.slice av l c) ∧ w2.frozen? ⟨T, 3, none⟩ = false ∧ ∃ t : Tm 3, Hid (DzS w (w2.setCell ⟨T, 3, none⟩ (.slice av2 lv2 cv2)) p a len cap T k av2 lv2 cv2 (ts ++ [t]))) := by
  obtain ⟨hc', p1, t, f, q1, g2, g3, g4⟩ := hP
  obtain ⟨a', l', c', ev, q1⟩ := q1
  subst hn
  have hT' := (p1.block _ (lt_of_row' h.2.1) (by simp; omega)).trans h.2.1
  have hTz' := lt_of_row' hT'
  have hob : ∀ g, (Value.slice av l c).ownBlock = some g → T + 1 ≤ g ∧ g < wr.heap.size := fun g hg => by
    rcases hrow.2 with ⟨e, _⟩ | ⟨g', c', cur, e1, e2, e3, _⟩
    · rw [e] at hg; cases hg
    · rw [e1] at hg
      obtain rfl : g' = g := by simpa [Value.ownBlock] using hg
      exact ⟨e2, lt_of_row' e3⟩
  obtain ⟨V1, hV1⟩ : ∃ V, V = w'.alloc (.cells #[.int .i64 k1, .int .i64 n1, .string s1, .slice a1 0 c1, .int .i64 k2, .int .i64 n2, .string s2, .slice a2 l2 c2] 26) := ⟨_, rfl⟩
  have n1' : V1.heap[w'.heap.size]? = some (.cells #[.int .i64 k1, .int .i64 n1, .string s1, .slice a1 0 c1, .int .i64 k2, .int .i64 n2, .string s2, .slice a2 l2 c2] 26 (0, 0)) := by rw [hV1]; exact heap_alloc_new w' _
  have hA1 : Below w'.heap.size w' V1 := by rw [hV1]; exact (Below.refl _ _).alloc (Nat.le_refl _) _
  obtain ⟨V2, hV2⟩ : ∃ V, V = V1.alloc (.cells #[.int .i64 4, .int .i64 0, .string ⟨#[]⟩, .slice (some ⟨w'.heap.size, 0, none⟩) 2 2] 26) := ⟨_, rfl⟩
  have hA2 : Below V1.heap.size V1 V2 := by rw [hV2]; exact (Below.refl _ _).alloc (Nat.le_refl _) _
  have hz1 : w'.heap.size < V1.heap.size := lt_of_row' n1'
  have hA : Below w'.heap.size w' V2 := hA1.trans (hA2.mono (by omega))
  have n2' := (hA2.block _ hz1).trans n1'
  rw [← hV1, ← hV2]
  have z1 := p1.size
  simp only [Value.agg.injEq] at ev
  have ev2 : ([.int .i64 k2, .int .i64 n2, .string s2, .slice a2 l2 c2] : List Value) = [.int .i64 t.K, .int .i64 t.N, .string t.S, .slice a' l' c'] := by simpa using congrArg Array.toList ev
  simp only [List.cons.injEq, Value.int.injEq, true_and, Value.string.injEq, Value.slice.injEq, and_true] at ev2
  obtain ⟨rfl, rfl, rfl, rfl, rfl, rfl⟩ := ev2
  have hg : wr.grownBy V2 (some p) := ⟨hA.os.trans p1.os, hA.tape.trans p1.tape, hA.output.trans p1.output, by have := hA.size; omega, fun g hg hne => (hA.block g (by omega)).trans (p1.block g hg hne)⟩
  have hcV : Cur V2 p a len cap := hc'.same (hA.block p hc'.lt)
  refine ⟨by rw [cell_of_row w' _ 3 _ _ _ hT']; rfl, hTz', rowKept hrow fun g hg => p1.block g (hob g hg).2 (by have := (hob g hg).1; simp; omega), fun w2 av2 lv2 cv2 d1 d2 d3 => ?_⟩
  have hq2 : OwnL 1 V2 (.slice a2 l2 c2) t.L f := q1.frame fun g hg => hA.block g (g2.2 g hg).2
  have hown : OwnL 2 V2 (.slice (some ⟨w'.heap.size, 0, none⟩) 2 2) [mkT k1 n1 s1 [], t] (w'.heap.size :: [[], f].flatten) := by
    refine .inr ⟨w'.heap.size, 2, _, [[], f], rfl, n2', rfl, rfl, fun i u hu => ?_⟩
    match i, hu with
    | 0, hu =>
      obtain rfl : mkT k1 n1 s1 [] = u := by simpa using hu
      exact ⟨_, [], rfl, rfl, rfl, rfl, rfl, .inl ⟨rfl, rfl, _, _, rfl⟩⟩
    | 1, hu =>
      obtain rfl : t = u := by simpa using hu
      exact ⟨_, f, rfl, rfl, rfl, rfl, rfl, hq2⟩
    | i + 2, hu => simp at hu
  have hstep := DzS.step (t := mkT 4 0 ⟨#[]⟩ [mkT k1 n1 s1 [], t]) h hp hpT hj hrow hcV hg hown ⟨?_, ?_⟩ ?_ ?_ d1 d2 d3
  · obtain ⟨e1, e2, e3⟩ := hstep
    exact ⟨e1, e2, _, e3⟩
  · simp only [List.flatten_cons, List.nil_append, List.flatten_nil, List.append_nil, List.nodup_cons]
    exact ⟨fun hm => by have := (g2.2 _ hm).2; omega, g2.1⟩
  · intro g hm
    simp only [List.flatten_cons, List.nil_append, List.flatten_nil, List.append_nil, List.mem_cons] at hm
    have := hA2.size
    rcases hm with rfl | hm
    · omega
    · have := g2.2 g hm; omega
  · refine ⟨⟨by show -9223372036854775808 ≤ (4 : Int); omega, by show (4 : Int) ≤ 9223372036854775807; omega⟩, ⟨by show -9223372036854775808 ≤ (0 : Int); omega, by show (0 : Int) ≤ 9223372036854775807; omega⟩, Nat.zero_le _, by show ([mkT k1 n1 s1 [], t] : List (Tm 2)).length ≤ _; simp, fun u hu => ?_⟩
    change u ∈ [mkT k1 n1 s1 [], t] at hu
    simp only [List.mem_cons, List.not_mem_nil, or_false] at hu
    rcases hu with rfl | rfl
    · exact ⟨hto.2.2.1, hto.2.2.2, by show s1.size ≤ maxLen; have := hto.2.1; unfold maxLen; omega, wfL_nil 1⟩
    · exact g3
  · refine ⟨(shape4 _ _ _).2 ⟨rfl, rfl, by show ([mkT k1 n1 s1 [], t] : List (Tm 2)).length ≤ _; simp⟩, Nat.zero_le _, by show ([mkT k1 n1 s1 [], t] : List (Tm 2)).length ≤ _; simp, fun u hu => ?_⟩
    change u ∈ [mkT k1 n1 s1 [], t] at hu
    simp only [List.mem_cons, List.not_mem_nil, or_false] at hu
    rcases hu with rfl | rfl
    · exact ⟨hto.1, hto.2.1, Nat.zero_le _, fun u hu => by cases hu⟩
    · exact g4

/-- Behind the draw of one that is no tuple, perhaps. -/
theorem dz_one {w wr w' : World} {p len cap T l c : Nat} {a av : Option Addr} {k : Int} {ts : List (Tm 3)} {cs : List Value} {k2 n2 : Int} {s2 : ByteArray} {a2 : Option Addr} {l2 c2 n : Nat} (h : DzS w wr p a len cap T k av l c ts) (hp : w.heap.size < p) (hpT : p < T) (hj : ts.length ≤ 100) (hn : ts.length = n)
    (hrow : wr.ownsRow (T + 1) 26 4 (.slice av l c) n cs) (hP : DPost 2 p a len cap wr w' (.agg #[.int .i64 k2, .int .i64 n2, .string s2, .slice a2 l2 c2])) :
    w'.cell? ⟨T, 3, none⟩ = some (.slice av l c) ∧ T < w'.heap.size ∧ w'.ownsRow (T + 1) 26 4 (.slice av l c) n cs ∧
    Hid (∀ (w2 : World) (av2 : Option Addr) (lv2 cv2 : Nat), w2.ownsRow (T + 1) 26 4 (.slice av2 lv2 cv2) (n + 1) (cs ++ [.int .i64 k2, .int .i64 n2, .string s2, .slice a2 l2 c2]) →
      (w'.alloc (.cells #[.int .i64 k2, .int .i64 n2, .string s2, .slice a2 l2 c2] 26)).grownBy w2 (Value.slice av l c).ownBlock →
      ((Value.slice av2 lv2 cv2).ownBlock = (Value.slice av l c).ownBlock ∨ (Value.slice av2 lv2 cv2).ownBlock = some (w'.alloc (.cells #[.int .i64 k2, .int .i64 n2, .string s2, .slice a2 l2 c2] 26)).heap.size) →
      w2.cell? ⟨T, 3, none⟩ = some (.slice av l c) ∧ w2.frozen? ⟨T, 3, none⟩ = false ∧ ∃ t : Tm 3, Hid (DzS w (w2.setCell ⟨T, 3, none⟩ (.slice av2 lv2 cv2)) p a len cap T k av2 lv2 cv2 (ts ++ [t]))) := by
  obtain ⟨hc', p1, t, f, q1, g2, g3, g4⟩ := hP
  obtain ⟨a', l', c', ev, q1⟩ := q1
  subst hn
  have hT' := (p1.block _ (lt_of_row' h.2.1) (by simp; omega)).trans h.2.1
  have hTz' := lt_of_row' hT'
  have hob : ∀ g, (Value.slice av l c).ownBlock = some g → T + 1 ≤ g ∧ g < wr.heap.size := fun g hg => by
    rcases hrow.2 with ⟨e, _⟩ | ⟨g', c', cur, e1, e2, e3, _⟩
    · rw [e] at hg; cases hg
    · rw [e1] at hg
      obtain rfl : g' = g := by simpa [Value.ownBlock] using hg
      exact ⟨e2, lt_of_row' e3⟩
  obtain ⟨V2, hV2⟩ : ∃ V, V = w'.alloc (.cells #[.int .i64 k2, .int .i64 n2, .string s2, .slice a2 l2 c2] 26) := ⟨_, rfl⟩
  have hA : Below w'.heap.size w' V2 := by rw [hV2]; exact (Below.refl _ _).alloc (Nat.le_refl _) _
  rw [← hV2]
  have z1 := p1.size
  have z2 := hA.size
  simp only [Value.agg.injEq] at ev
  have ev2 : ([.int .i64 k2, .int .i64 n2, .string s2, .slice a2 l2 c2] : List Value) = [.int .i64 t.K, .int .i64 t.N, .string t.S, .slice a' l' c'] := by simpa using congrArg Array.toList ev
  simp only [List.cons.injEq, Value.int.injEq, true_and, Value.string.injEq, Value.slice.injEq, and_true] at ev2
  obtain ⟨rfl, rfl, rfl, rfl, rfl, rfl⟩ := ev2
  have hg : wr.grownBy V2 (some p) := ⟨hA.os.trans p1.os, hA.tape.trans p1.tape, hA.output.trans p1.output, by omega, fun g hg hne => (hA.block g (by omega)).trans (p1.block g hg hne)⟩
  have hcV : Cur V2 p a len cap := hc'.same (hA.block p hc'.lt)
  refine ⟨by rw [cell_of_row w' _ 3 _ _ _ hT']; rfl, hTz', rowKept hrow fun g hg => p1.block g (hob g hg).2 (by have := (hob g hg).1; simp; omega), fun w2 av2 lv2 cv2 d1 d2 d3 => ?_⟩
  have hq2 : OwnL 1 V2 (.slice a2 l2 c2) t.L f := q1.frame fun g hg => hA.block g (g2.2 g hg).2
  have hstep := DzS.step (t := cv1 1 2 t) h hp hpT hj hrow hcV hg (conv_own 1 2 t.L (by omega) _ _ _ hq2) ⟨g2.1, fun g hm => by have := g2.2 g hm; omega⟩ ⟨g3.1, g3.2.1, g3.2.2.1, (conv_ok 1 2 t.L (by have := depL_le_d 1 t.L; omega)).2.2.1 g3.2.2.2⟩ (sm_conv 1 2 t (by omega) g4) d1 d2 d3
  obtain ⟨e1, e2, e3⟩ := hstep
  exact ⟨e1, e2, _, e3⟩

set_option maxHeartbeats 400000 in
theorem l13Atom_any (s : ByteArray) (w : World) : Calls Try.prog 11 #[.string s] w fun e w' => e = .returned (.agg #[.int .i64 2, .int .i64 0, .string s, .slice none 0 0]) ∧ Below w.heap.size w w' := by
  go_enter Try.func11, Try.ntmps11
  go_wp2_with fail
  refine bodyPost_ret (v := .agg #[.int .i64 2, .int .i64 0, .string s, .slice none 0 0]) (by first | (simp [results, Try.results11, go_sem]; done) | (simp [results, Try.results11, go_sem]; rfl)) rfl ⟨rfl, (Below.refl _ _).alloc (Nat.le_refl _) _⟩

/-- What comes of the draw. -/
def DzRes (w : World) (e : Ending) (w' : World) : Prop := ∃ (k : Int) (av : Option Addr) (l c : Nat) (ts : List (Tm 3)) (fp : List Nat), e = .returned (.agg #[.int .i64 k, .int .i64 0, .string ⟨#[]⟩, .slice av l c]) ∧ Hid ((k = 4 ∨ k = 5) ∧ ts.length = l ∧ l ≤ 4 ∧ OwnL 3 w' (.slice av l c) ts fp ∧ Fresh w.heap.size w' fp ∧ WfL 3 ts ∧ ∀ u ∈ ts, SmT 3 u) ∧ Below w.heap.size w w'

/-- At its end. -/
theorem dz_end {w w9 Z : World} {p len cap T l c : Nat} {a av : Option Addr} {ts : List (Tm 3)} {k : Int} (h : DzS w w9 p a len cap T 5 av l c ts) (hl : ts.length ≤ 4) (hRT : w.heap.size < T) (hk : k = 4 ∨ k = 5) (hZ : Kept w.heap.size (T + 1) w9 Z) :
    DzRes w (.returned (.agg #[.int .i64 k, .int .i64 0, .string ⟨#[]⟩, .slice av l c])) Z := by
  obtain ⟨h0, h1, hc, hb, ⟨fp, hM⟩, hsm⟩ := h
  obtain ⟨a', l', c', fp', e, hO, hF, hW⟩ := hM.own
  obtain ⟨a2, c2, e2⟩ := hO.rd.len
  simp only [Value.slice.injEq] at e2
  have hzZ := hZ.size
  refine ⟨k, av, l, c, ts, fp', rfl, ⟨hk, e2.2.1.symm, by omega, hO.frame fun g hg => ?_, ⟨hF.1, fun g hg => ?_⟩, hW, hsm⟩, hb.trans (hZ.below (Nat.le_refl _) hb.size)⟩
  · exact hZ.block g (hF.2 g hg).2 (.inr (by have := (hF.2 g hg).1; omega))
  · have := hF.2 g hg; omega

set_option maxRecDepth 100000 in
set_option maxHeartbeats 2000000 in
theorem drawSends_any (a : Option Addr) (len cap : Nat) (zs : List Int) (w : World) (hr : IsRow .u8 w a len cap zs) (hm : len ≤ 1048576) :
    Calls Try.prog 5 #[.slice a len cap] w fun e w' => DzRes w e w' := by
  obtain ⟨i0, hi, hi0, hi1, hi2⟩ := info_parts Try.infoTerm
  obtain ⟨W0, hW0⟩ : ∃ W, W = w.alloc (.cells #[.int .i64 0, .int .i64 0, .string ⟨#[]⟩, .slice none 0 0] 26) := ⟨_, rfl⟩
  have hA0 : Below w.heap.size w W0 := by rw [hW0]; exact (Below.refl _ _).alloc (Nat.le_refl _) _
  have nA0 : W0.heap[w.heap.size]? = some (.cells #[.int .i64 0, .int .i64 0, .string ⟨#[]⟩, .slice none 0 0] 26 (0, 0)) := by rw [hW0]; exact heap_alloc_new w _
  have z0 : W0.heap.size = w.heap.size + 1 := by rw [hW0]; simp
  have hN := l1New_any a len cap zs W0 (hr.later hA0) (by omega)
  have hne := isRow_old (hr.later hA0)
  have HR : Hid (∀ V : World, Below w.heap.size w V → IsRow .u8 V a len cap zs) := fun V hV => hr.later hV
  have HNE : Hid (∀ x, a = some x → 0 < cap → x.block ≠ W0.heap.size) := hne
  clear hr hne
  obtain ⟨p, hp⟩ : ∃ p, W0.heap.size = p := ⟨_, rfl⟩
  have HP : Hid (W0.heap.size = p ∧ p = w.heap.size + 1) := ⟨hp, by omega⟩
  have HW0 : Hid (Below w.heap.size w W0 ∧ W0.heap[w.heap.size]? = _) := ⟨hA0, nA0⟩
  rw [hp, hW0] at hN
  have HW0' : Hid (W0 = _) := hW0
  clear hA0 nA0 z0 hW0
  go_enter Try.func5, Try.ntmps5
  go_wp2_with fail
  refine hN.mono ?_
  clear hN
  rw [← HW0'.out]
  rintro e w2 ⟨rfl, hc2, hb2⟩
  obtain ⟨T, hT⟩ : ∃ T, w2.heap.size = T := ⟨_, rfl⟩
  obtain ⟨W, hW⟩ : ∃ W, W = w2.alloc (.cells #[.int .i64 5, .int .i64 0, .string ⟨#[]⟩, .slice none 0 0] 26) := ⟨_, rfl⟩
  have hbW : Below w2.heap.size w2 W := by rw [hW]; exact (Below.refl _ _).alloc (Nat.le_refl _) _
  have hnW : W.heap[T]? = some (.cells #[.int .i64 5, .int .i64 0, .string ⟨#[]⟩, .slice none 0 0] 26 (0, 0)) := by rw [hW, ← hT]; exact heap_alloc_new w2 _
  have hpT : p < T := by rw [← hT]; exact hc2.lt
  have hS0 : DzS w W p a len cap T 5 none 0 0 [] := by
    have e1 := HP.out.1
    have e2 := HP.out.2
    have hb3 := hb2.size
    refine ⟨(hbW.block _ (by omega)).trans ((hb2.block _ (by omega)).trans HW0.out.2), hnW, hc2.same (hbW.block _ hc2.lt), HW0.out.1.trans ((hb2.trans (hbW.mono (by omega))).mono (by omega)), ⟨[], made_nil 3 _ _⟩, fun u hu => by cases hu⟩
  have hB := l1Below_any p len cap a zs 4 W hS0.2.2.1 (HR.out W hS0.2.2.2.1) (by rw [← HP.out.1]; exact HNE.out) (by omega) (by omega) (by omega)
  rw [hW] at hB
  have HS0 : Hid (DzS w W p a len cap T 5 none 0 0 [] ∧ p < T) := ⟨hS0, hpT⟩
  have HW : Hid (W = _) := hW
  clear hW hS0 hbW hnW hpT hc2 hb2
  go_wp2_with fail
  refine hB.mono ?_
  clear hB
  rw [← HW.out]
  rintro e w3 ⟨y, hy0, hy1, rfl, hc3, hg3⟩
  have HS : Hid (DzS w w3 p a len cap T 5 none 0 0 [] ∧ p < T) := ⟨HS0.out.1.grown hg3 hc3 (by have := HP.out.2; omega) HS0.out.2, HS0.out.2⟩
  clear HS0 hc3 hg3 HW hT
  go_wp2_with fail
  go_loopw [5, 6] (fun i tq wr => Hid (∃ (z : Int) (av : Option Addr) (l c : Nat) (ts : List (Tm 3)), i = .int .i64 z ∧ 0 ≤ z ∧ z + ts.length ≤ 3 ∧ DzS w wr p a len cap T 5 av l c ts)) (fun i _ _ => (intOf i).toNat)
  case atStart => exact ⟨y, none, 0, 0, [], rfl, hy0, by simp; omega, HS.out.1⟩
  case round =>
    obtain ⟨z, av, l, c, ts, rfl, hz0, hz1, hD⟩ := hrel.out
    clear hrel
    by_cases hz : 0 < z
    · have hAt := l13Atom_any ⟨#[97]⟩ wr
      have HD : Hid (DzS w wr p a len cap T 5 av l c ts) := hD
      clear hD
      go_wp2_with fail
      refine hAt.mono ?_
      clear hAt
      rintro e w4 ⟨rfl, hb4⟩
      have HD4 : Hid (DzS w w4 p a len cap T 5 av l c ts ∧ p < T) := ⟨HD.out.later hb4, HS.out.2⟩
      obtain ⟨q, hq⟩ : ∃ q, w4.heap.size = q := ⟨_, rfl⟩
      have hTq : T < q := by rw [← hq]; exact lt_of_row' HD4.out.1.2.1
      obtain ⟨W5, hW5⟩ : ∃ W, W = w4.alloc (.cells #[.int .i64 2, .int .i64 0, .string ⟨#[97]⟩, .slice none 0 0] 26) := ⟨_, rfl⟩
      have hA5 : Below w4.heap.size w4 W5 := by rw [hW5]; exact (Below.refl _ _).alloc (Nat.le_refl _) _
      have hG5 : w4.grownBy W5 (some p) := by rw [hW5]; exact World.grownBy_alloc w4 _ (some p)
      have nq5 : W5.heap[q]? = some (.cells #[.int .i64 2, .int .i64 0, .string ⟨#[97]⟩, .slice none 0 0] 26 (0, 0)) := by rw [hW5, ← hq]; exact heap_alloc_new w4 _
      have hD5 : DzS w W5 p a len cap T 5 av l c ts := HD4.out.1.later hA5
      have hO := l1OnceT_any p len cap a zs 3 W5 hD5.2.2.1 (HR.out W5 hD5.2.2.2.1) (by rw [← HP.out.1]; exact HNE.out) (by omega) (by omega) (by omega)
      rw [hW5] at hO
      have HW5 : Hid (W5 = _) := hW5
      have HD5 : Hid (w4.grownBy W5 (some p) ∧ W5.heap[q]? = _ ∧ T < q ∧ w4.heap.size = q) := ⟨hG5, nq5, hTq, hq⟩
      clear hD5 nq5 hA5 hG5 hW5 HD hb4 hTq
      go_wp2_with fail
      refine hO.mono ?_
      clear hO
      rw [← HW5.out]
      rintro e w6 ⟨b, rfl, hc6, hg6⟩
      have HG6 : Hid (w4.grownBy w6 (some p) ∧ Cur w6 p a len cap ∧ T < q ∧ w4.heap.size = q) := ⟨grownBy_trans HD5.out.1 hg6, hc6, HD5.out.2.2⟩
      have nq6 : w6.heap[q]? = some (.cells #[.int .i64 2, .int .i64 0, .string ⟨#[97]⟩, .slice none 0 0] 26 (0, 0)) := (hg6.block q (lt_of_row' HD5.out.2.1) (by have := HD5.out.2.2; have := HS.out.2; simp; omega)).trans HD5.out.2.1
      have HN6 : Hid (w6.heap[q]? = _) := nq6
      have hqz : q < w6.heap.size := lt_of_row' nq6
      clear HD5 hc6 hg6 HW5 nq6
      cases b with
      | true =>
        have hC0 := l2Draw_any 0 (by omega) p len cap a zs w6 HG6.out.2.1 (HR.out w6 (HD4.out.1.grown HG6.out.1 HG6.out.2.1 (by have := HP.out.2; omega) HS.out.2).2.2.2.1) (by rw [← HP.out.1]; exact HNE.out) (by omega)
        go_wp2_with fail
        refine hC0.mono ?_
        clear hC0
        rintro e w6' ⟨k1, n1, s1, a1, l1, c1, rfl, HPO⟩
        have HTO : Hid (ToP k1 n1 s1 ∧ l1 = 0) := by
          obtain ⟨_, _, t, f, ⟨a', l', c', ev, q1⟩, _, g3, g4⟩ := HPO.out
          simp only [Value.agg.injEq] at ev
          have ev2 : ([.int .i64 k1, .int .i64 n1, .string s1, .slice a1 l1 c1] : List Value) = [.int .i64 t.K, .int .i64 t.N, .string t.S, .slice a' l' c'] := by simpa using congrArg Array.toList ev
          simp only [List.cons.injEq, Value.int.injEq, true_and, Value.string.injEq, Value.slice.injEq, and_true] at ev2
          obtain ⟨rfl, rfl, rfl, rfl, rfl, rfl⟩ := ev2
          have hl : t.L = [] := tm0 t.L
          have h1 := g4.1
          rw [hl] at h1
          refine ⟨⟨h1, g4.2.1, g3.1, g3.2.1⟩, ?_⟩
          obtain ⟨⟨_, _, e⟩, _⟩ := q1
          simp only [Value.slice.injEq] at e
          exact e.2.1
        obtain rfl := HTO.out.2
        have nq' : w6'.heap[q]? = some (.cells #[.int .i64 2, .int .i64 0, .string ⟨#[97]⟩, .slice none 0 0] 26 (0, 0)) := (HPO.out.2.1.block q hqz (by have := HG6.out.2.2; have := HS.out.2; simp; omega)).trans HN6.out
        have c0 : w6'.cell? ⟨q, 0, none⟩ = some (.int .i64 2) := by rw [cell_of_row w6' _ 0 _ _ _ nq']; rfl
        have c1' : w6'.cell? ⟨q, 1, none⟩ = some (.int .i64 0) := by rw [cell_of_row w6' _ 1 _ _ _ nq']; rfl
        have c2 : w6'.cell? ⟨q, 2, none⟩ = some (.string ⟨#[97]⟩) := by rw [cell_of_row w6' _ 2 _ _ _ nq']; rfl
        have c3 : w6'.cell? ⟨q, 3, none⟩ = some (.slice none 0 0) := by rw [cell_of_row w6' _ 3 _ _ _ nq']; rfl
        have y0 : w6'.frozen? ⟨q, 0, none⟩ = false := frozen_of_row w6' _ 0 _ _ nq'
        have y1 : w6'.frozen? ⟨q, 1, none⟩ = false := frozen_of_row w6' _ 1 _ _ nq'
        have y2 : w6'.frozen? ⟨q, 2, none⟩ = false := frozen_of_row w6' _ 2 _ _ nq'
        have y3 : w6'.frozen? ⟨q, 3, none⟩ = false := frozen_of_row w6' _ 3 _ _ nq'
        obtain ⟨w7, hw7⟩ : ∃ W, W = (((w6'.setCell ⟨q, 0, none⟩ (.int .i64 k1)).setCell ⟨q, 1, none⟩ (.int .i64 n1)).setCell ⟨q, 2, none⟩ (.string s1)).setCell ⟨q, 3, none⟩ (.slice a1 0 c1) := ⟨_, rfl⟩
        have nq7 : w7.heap[q]? = some (.cells #[.int .i64 k1, .int .i64 n1, .string s1, .slice a1 0 c1] 26 (0, 0)) := by
          rw [hw7]
          have m0 := heap_setCell_same w6' q 0 _ _ (.int .i64 k1) nq'
          have m1 := heap_setCell_same _ q 1 _ _ (.int .i64 n1) m0
          have m2 := heap_setCell_same _ q 2 _ _ (.string s1) m1
          exact heap_setCell_same _ q 3 _ _ (.slice a1 0 c1) m2
        have hG7 : w4.grownBy w7 (some p) := by
          rw [hw7]
          have := HG6.out.2.2.2
          exact grown_set (grown_set (grown_set (grown_set (grownBy_trans HG6.out.1 HPO.out.2.1) (by omega)) (by omega)) (by omega)) (by omega)
        have hc7 : Cur w7 p a len cap := by
          rw [hw7]
          have := HG6.out.2.2.1
          have := HS.out.2
          exact cur_set (cur_set (cur_set (cur_set HPO.out.1 (by omega)) (by omega)) (by omega)) (by omega)
        have HD7 : Hid (DzS w w7 p a len cap T 5 av l c ts ∧ ToP k1 n1 s1 ∧ w7.heap[q]? = some (.cells #[.int .i64 k1, .int .i64 n1, .string s1, .slice a1 0 c1] 26 (0, 0)) ∧ T < q) := ⟨HD4.out.1.grown hG7 hc7 (by have := HP.out.2; omega) HS.out.2, HTO.out.1, nq7, HG6.out.2.2.1⟩
        have HW7 : Hid (w7 = _) := hw7
        clear HTO nq' nq7 hG7 hc7 hw7 HPO HG6 HN6 hqz HD4
        go_wp2_with fail
        rw [← HW7.out]
        clear HW7 c0 c1' c2 c3 y0 y1 y2 y3
        obtain ⟨cs, hrow⟩ : ∃ cs, w7.ownsRow (T + 1) 26 4 (.slice av l c) ts.length cs := by
          obtain ⟨_, _, _, _, ⟨fp, hM⟩, _⟩ := HD7.out.1
          exact made_row hM
        obtain ⟨j, hj⟩ : ∃ j, ts.length = j := ⟨_, rfl⟩
        rw [hj] at hrow hz1
        have hC := l2Draw_any 1 (by omega) p len cap a zs w7.drew (HD7.out.1.2.2.1.same rfl) (HR.out _ (HD7.out.1.2.2.2.1.drew)) (by rw [← HP.out.1]; exact HNE.out) (by omega)
        have HAFT : Hid (∀ w' k2 x2 s2 a2 l2 c2, Hid (DPost 2 p a len cap w7.drew w' (.agg #[.int .i64 k2, .int .i64 x2, .string s2, .slice a2 l2 c2])) → w'.heap[q]? = some (.cells #[.int .i64 k1, .int .i64 n1, .string s1, .slice a1 0 c1] 26 (0, 0)) ∧ _) := fun w' k2 x2 s2 a2 l2 c2 h => ⟨(h.out.2.1.block q (lt_of_row' HD7.out.2.2.1) (by have := HD7.out.2.2.2; have := HS.out.2; simp; omega)).trans HD7.out.2.2.1, dz_tuple (w := w) (a1 := a1) (c1 := c1) (HD7.out.1.later ((Below.refl _ _).drew)) (by have := HP.out.2; omega) HS.out.2 (by omega) hj (rowKept hrow fun _ _ => rfl) HD7.out.2.1 h.out⟩
        have t3 : w7.cell? ⟨T, 3, none⟩ = some (.slice av l c) := by rw [cell_of_row w7 _ 3 _ _ _ HD7.out.1.2.1]; rfl
        have q0 : w7.cell? ⟨q, 0, none⟩ = some (.int .i64 k1) := by rw [cell_of_row w7 _ 0 _ _ _ HD7.out.2.2.1]; rfl
        have q1 : w7.cell? ⟨q, 1, none⟩ = some (.int .i64 n1) := by rw [cell_of_row w7 _ 1 _ _ _ HD7.out.2.2.1]; rfl
        have q2 : w7.cell? ⟨q, 2, none⟩ = some (.string s1) := by rw [cell_of_row w7 _ 2 _ _ _ HD7.out.2.2.1]; rfl
        have q3 : w7.cell? ⟨q, 3, none⟩ = some (.slice a1 0 c1) := by rw [cell_of_row w7 _ 3 _ _ _ HD7.out.2.2.1]; rfl
        have hj100 : j ≤ 3 := by omega
        have HJ : Hid (z + j ≤ 3 ∧ ts.length = j ∧ 0 < z) := ⟨hz1, hj, hz⟩
        clear hrow HD7 hj
        go_wp2_with fail
        go_region_law (first
          | (refine step_append_own rfl (.tmp 22) (.tmp 28) 24 rfl (T + 1) 26 i0 (.agg #[.int .i64 0, .int .i64 0, .string ⟨#[]⟩, .slice none 0 0]) 4 56 Try.underlying24 hi hi0 hi1 hi2 rfl (by decide) (.slice av l c) j cs (by simp [Act.eval]) ((hcs'.alloc _).alloc _) ⟨w'.heap.size + 1, 0, none⟩ 1 1 [.int .i64 4, .int .i64 0, .string ⟨#[]⟩, .slice (some ⟨w'.heap.size, 0, none⟩) 2 2] (by simp [Act.eval]) rfl (by have := four_new (w'.alloc (.cells #[.int .i64 k1, .int .i64 n1, .string s1, .slice a1 0 c1, .int .i64 k2, .int .i64 x2, .string s2, .slice a2 l2 c2] 26)) (.int .i64 4) (.int .i64 0) (.string ⟨#[]⟩) (.slice (some ⟨w'.heap.size, 0, none⟩) 2 2) 26; rw [show (w'.alloc (.cells #[.int .i64 k1, .int .i64 n1, .string s1, .slice a1 0 c1, .int .i64 k2, .int .i64 x2, .string s2, .slice a2 l2 c2] 26)).heap.size = w'.heap.size + 1 from by simp] at this; exact this) (by intro u hu; simp at hu; rcases hu with rfl | rfl | rfl | rfl <;> rfl) (by unfold maxLen; omega) (by omega) (by simp; omega) ?_; intro v' w2 hown2 hgrow2 hat; obtain ⟨av2, lv2, cv2, rfl⟩ := row_slice hown2; obtain ⟨v3, v3', t, HM2⟩ := HA.out w2 av2 lv2 cv2 hown2 hgrow2 hat)
          | (go_simp; go_at_call 13; refine hC.mono ?_; rintro e w' ⟨k2, x2, s2, a2, l2, c2, rfl, HP0⟩; obtain ⟨nq', t3', hTz', hcs', HA⟩ := HAFT.out w' k2 x2 s2 a2 l2 c2 HP0; have hqz' : q < w'.heap.size := lt_of_row' nq'; have q0' : w'.cell? ⟨q, 0, none⟩ = some (.int .i64 k1) := by rw [cell_of_row w' _ 0 _ _ _ nq']; rfl
             have q1' : w'.cell? ⟨q, 1, none⟩ = some (.int .i64 n1) := by rw [cell_of_row w' _ 1 _ _ _ nq']; rfl
             have q2' : w'.cell? ⟨q, 2, none⟩ = some (.string s1) := by rw [cell_of_row w' _ 2 _ _ _ nq']; rfl
             have q3' : w'.cell? ⟨q, 3, none⟩ = some (.slice a1 0 c1) := by rw [cell_of_row w' _ 3 _ _ _ nq']; rfl
             clear nq'))
        all_goals
          clear hown2 hgrow2 hat HA hcs'
          go_wp2_with fail
          go_roundw
          case rel => exact ⟨z - 1, av2, lv2, cv2, ts ++ [t], by go_num, by omega, by have := HJ.out; simp; omega, HM2.out⟩
          case measure => simp [intOf]; omega
      | false =>
        obtain ⟨k1, hk1⟩ : ∃ k : Int, k = 2 := ⟨_, rfl⟩
        have HD7 : Hid (DzS w w6 p a len cap T 5 av l c ts ∧ ToP 2 0 ⟨#[97]⟩ ∧ w6.heap[q]? = some (.cells #[.int .i64 2, .int .i64 0, .string ⟨#[97]⟩, .slice none 0 0] 26 (0, 0)) ∧ T < q) := ⟨HD4.out.1.grown HG6.out.1 HG6.out.2.1 (by have := HP.out.2; omega) HS.out.2, ⟨(shape2 _ _ _).2 ⟨(tmA_ok ⟨#[97]⟩ (by unfold tmA; simp)).1 |> fun h => ((shape2 _ _ _).1 h).1, rfl, rfl⟩, by decide, ⟨by omega, by omega⟩, ⟨by omega, by omega⟩⟩, HN6.out, HG6.out.2.2.1⟩
        clear HG6 HN6 hqz HD4
        go_wp2_with fail
        obtain ⟨cs, hrow⟩ : ∃ cs, w6.ownsRow (T + 1) 26 4 (.slice av l c) ts.length cs := by
          obtain ⟨_, _, _, _, ⟨fp, hM⟩, _⟩ := HD7.out.1
          exact made_row hM
        obtain ⟨j, hj⟩ : ∃ j, ts.length = j := ⟨_, rfl⟩
        rw [hj] at hrow hz1
        have hC := l2Draw_any 1 (by omega) p len cap a zs w6.drew (HD7.out.1.2.2.1.same rfl) (HR.out _ (HD7.out.1.2.2.2.1.drew)) (by rw [← HP.out.1]; exact HNE.out) (by omega)
        have HAFT : Hid (∀ w' k2 x2 s2 a2 l2 c2, Hid (DPost 2 p a len cap w6.drew w' (.agg #[.int .i64 k2, .int .i64 x2, .string s2, .slice a2 l2 c2])) → w'.heap[q]? = some (.cells #[.int .i64 2, .int .i64 0, .string ⟨#[97]⟩, .slice none 0 0] 26 (0, 0)) ∧ _) := fun w' k2 x2 s2 a2 l2 c2 h => ⟨(h.out.2.1.block q (lt_of_row' HD7.out.2.2.1) (by have := HD7.out.2.2.2; have := HS.out.2; simp; omega)).trans HD7.out.2.2.1, dz_tuple (w := w) (a1 := none) (c1 := 0) (HD7.out.1.later ((Below.refl _ _).drew)) (by have := HP.out.2; omega) HS.out.2 (by omega) hj (rowKept hrow fun _ _ => rfl) HD7.out.2.1 h.out⟩
        have t3 : w6.cell? ⟨T, 3, none⟩ = some (.slice av l c) := by rw [cell_of_row w6 _ 3 _ _ _ HD7.out.1.2.1]; rfl
        have q0 : w6.cell? ⟨q, 0, none⟩ = some (.int .i64 2) := by rw [cell_of_row w6 _ 0 _ _ _ HD7.out.2.2.1]; rfl
        have q1 : w6.cell? ⟨q, 1, none⟩ = some (.int .i64 0) := by rw [cell_of_row w6 _ 1 _ _ _ HD7.out.2.2.1]; rfl
        have q2 : w6.cell? ⟨q, 2, none⟩ = some (.string ⟨#[97]⟩) := by rw [cell_of_row w6 _ 2 _ _ _ HD7.out.2.2.1]; rfl
        have q3 : w6.cell? ⟨q, 3, none⟩ = some (.slice none 0 0) := by rw [cell_of_row w6 _ 3 _ _ _ HD7.out.2.2.1]; rfl
        have hj100 : j ≤ 3 := by omega
        have HJ : Hid (z + j ≤ 3 ∧ ts.length = j ∧ 0 < z) := ⟨hz1, hj, hz⟩
        clear hrow HD7 hj
        go_wp2_with fail
        go_region_law (first
          | (refine step_append_own rfl (.tmp 22) (.tmp 28) 24 rfl (T + 1) 26 i0 (.agg #[.int .i64 0, .int .i64 0, .string ⟨#[]⟩, .slice none 0 0]) 4 56 Try.underlying24 hi hi0 hi1 hi2 rfl (by decide) (.slice av l c) j cs (by simp [Act.eval]) ((hcs'.alloc _).alloc _) ⟨w'.heap.size + 1, 0, none⟩ 1 1 [.int .i64 4, .int .i64 0, .string ⟨#[]⟩, .slice (some ⟨w'.heap.size, 0, none⟩) 2 2] (by simp [Act.eval]) rfl (by have := four_new (w'.alloc (.cells #[.int .i64 2, .int .i64 0, .string ⟨#[97]⟩, .slice none 0 0, .int .i64 k2, .int .i64 x2, .string s2, .slice a2 l2 c2] 26)) (.int .i64 4) (.int .i64 0) (.string ⟨#[]⟩) (.slice (some ⟨w'.heap.size, 0, none⟩) 2 2) 26; rw [show (w'.alloc (.cells #[.int .i64 2, .int .i64 0, .string ⟨#[97]⟩, .slice none 0 0, .int .i64 k2, .int .i64 x2, .string s2, .slice a2 l2 c2] 26)).heap.size = w'.heap.size + 1 from by simp] at this; exact this) (by intro u hu; simp at hu; rcases hu with rfl | rfl | rfl | rfl <;> rfl) (by unfold maxLen; omega) (by omega) (by simp; omega) ?_; intro v' w2 hown2 hgrow2 hat; obtain ⟨av2, lv2, cv2, rfl⟩ := row_slice hown2; obtain ⟨v3, v3', t, HM2⟩ := HA.out w2 av2 lv2 cv2 hown2 hgrow2 hat)
          | (go_simp; go_at_call 13; refine hC.mono ?_; rintro e w' ⟨k2, x2, s2, a2, l2, c2, rfl, HP0⟩; obtain ⟨nq', t3', hTz', hcs', HA⟩ := HAFT.out w' k2 x2 s2 a2 l2 c2 HP0; have hqz' : q < w'.heap.size := lt_of_row' nq'; have q0' : w'.cell? ⟨q, 0, none⟩ = some (.int .i64 2) := by rw [cell_of_row w' _ 0 _ _ _ nq']; rfl
             have q1' : w'.cell? ⟨q, 1, none⟩ = some (.int .i64 0) := by rw [cell_of_row w' _ 1 _ _ _ nq']; rfl
             have q2' : w'.cell? ⟨q, 2, none⟩ = some (.string ⟨#[97]⟩) := by rw [cell_of_row w' _ 2 _ _ _ nq']; rfl
             have q3' : w'.cell? ⟨q, 3, none⟩ = some (.slice none 0 0) := by rw [cell_of_row w' _ 3 _ _ _ nq']; rfl
             clear nq'))
        all_goals
          clear hown2 hgrow2 hat HA hcs'
          go_wp2_with fail
          go_roundw
          case rel => exact ⟨z - 1, av2, lv2, cv2, ts ++ [t], by go_num, by omega, by have := HJ.out; simp; omega, HM2.out⟩
          case measure => simp [intOf]; omega
    · obtain rfl : z = 0 := by omega
      have hD' := hD
      have hO := l1OnceT_any p len cap a zs 6 wr hD.2.2.1 (HR.out wr hD.2.2.2.1) (by rw [← HP.out.1]; exact HNE.out) (by omega) (by omega) (by omega)
      have HD : Hid (DzS w wr p a len cap T 5 av l c ts ∧ ts.length ≤ 3) := ⟨hD, by omega⟩
      clear hD hD' hz hz0
      go_wp2_with fail
      refine hO.mono ?_
      clear hO
      rintro e w4 ⟨b, rfl, hc4, hg4⟩
      have HD4 : Hid (DzS w w4 p a len cap T 5 av l c ts ∧ ts.length ≤ 4) := ⟨HD.out.1.grown hg4 hc4 (by have := HP.out.2; omega) HS.out.2, by have := HD.out.2; omega⟩
      have hj3 := HD.out.2
      clear HD hc4 hg4 hz1
      cases b with
      | true =>
        obtain ⟨cs, hrow⟩ : ∃ cs, w4.ownsRow (T + 1) 26 4 (.slice av l c) ts.length cs := by
          obtain ⟨_, _, _, _, ⟨fp, hM⟩, _⟩ := HD4.out.1
          exact made_row hM
        obtain ⟨j, hj⟩ : ∃ j, ts.length = j := ⟨_, rfl⟩
        rw [hj] at hrow hj3
        have hC := l2Draw_any 1 (by omega) p len cap a zs w4.drew (HD4.out.1.2.2.1.same rfl) (HR.out _ (HD4.out.1.2.2.2.1.drew)) (by rw [← HP.out.1]; exact HNE.out) (by omega)
        have HAFT : Hid (∀ w' k2 x2 s2 a2 l2 c2, Hid (DPost 2 p a len cap w4.drew w' (.agg #[.int .i64 k2, .int .i64 x2, .string s2, .slice a2 l2 c2])) → _) := fun w' k2 x2 s2 a2 l2 c2 h => dz_one (w := w) (HD4.out.1.later ((Below.refl _ _).drew)) (by have := HP.out.2; omega) HS.out.2 (by omega) hj (rowKept hrow fun _ _ => rfl) h.out
        have t3 : w4.cell? ⟨T, 3, none⟩ = some (.slice av l c) := by rw [cell_of_row w4 _ 3 _ _ _ HD4.out.1.2.1]; rfl
        have HJ : Hid (ts.length = j ∧ j ≤ 3) := ⟨hj, hj3⟩
        clear hrow HD4 hj
        go_wp2_with fail
        go_region_law (first
          | (refine step_append_own rfl (.tmp 34) (.tmp 37) 24 rfl (T + 1) 26 i0 (.agg #[.int .i64 0, .int .i64 0, .string ⟨#[]⟩, .slice none 0 0]) 4 56 Try.underlying24 hi hi0 hi1 hi2 rfl (by decide) (.slice av l c) j cs (by simp [Act.eval]) (hcs'.alloc _) ⟨w'.heap.size, 0, none⟩ 1 1 [.int .i64 k2, .int .i64 x2, .string s2, .slice a2 l2 c2] (by simp [Act.eval]) rfl (four_new w' _ _ _ _ _) (by intro u hu; simp at hu; rcases hu with rfl | rfl | rfl | rfl <;> rfl) (by unfold maxLen; omega) (by omega) (by simp; omega) ?_; intro v' w2 hown2 hgrow2 hat; obtain ⟨av2, lv2, cv2, rfl⟩ := row_slice hown2; obtain ⟨v3, v3', t, HM2⟩ := HA.out w2 av2 lv2 cv2 hown2 hgrow2 hat)
          | (go_simp; go_at_call 13; refine hC.mono ?_; rintro e w' ⟨k2, x2, s2, a2, l2, c2, rfl, HP0⟩; obtain ⟨t3', hTz', hcs', HA⟩ := HAFT.out w' k2 x2 s2 a2 l2 c2 HP0))
        all_goals
          clear hown2 hgrow2 hat HA hcs' HAFT
          obtain ⟨w5, hw5⟩ : ∃ W, W = w2.setCell ⟨T, 3, none⟩ (.slice av2 lv2 cv2) := ⟨_, rfl⟩
          rw [← hw5] at HM2
          have HW5 : Hid (w5 = _) := hw5
          have HD5 : Hid (DzS w w5 p a len cap T 5 av2 lv2 cv2 (ts ++ [t]) ∧ (ts ++ [t]).length ≤ 4) := ⟨HM2.out, by have := HJ.out; simp; omega⟩
          clear HM2 hw5
          rw [← HW5.out]
          clear HW5
          have hO2 := l1OnceT_any p len cap a zs 12 w5 HD5.out.1.2.2.1 (HR.out w5 HD5.out.1.2.2.2.1) (by rw [← HP.out.1]; exact HNE.out) (by omega) (by omega) (by omega)
          go_wp2_with fail
          refine hO2.mono ?_
          clear hO2
          rintro e w9 ⟨b9, rfl, hc9, hg9⟩
          have hD9 : DzS w w9 p a len cap T 5 av2 lv2 cv2 (ts ++ [t]) := HD5.out.1.grown hg9 hc9 (by have := HP.out.2; omega) HS.out.2
          have hRT : w.heap.size < T := by have := HP.out.2; have := HS.out.2; omega
          have b0 : w9.cell? ⟨w.heap.size, 0, none⟩ = some (.int .i64 0) := by rw [cell_of_row w9 _ 0 _ _ _ hD9.1]; rfl
          have b1 : w9.cell? ⟨w.heap.size, 1, none⟩ = some (.int .i64 0) := by rw [cell_of_row w9 _ 1 _ _ _ hD9.1]; rfl
          have b2 : w9.cell? ⟨w.heap.size, 2, none⟩ = some (.string ⟨#[]⟩) := by rw [cell_of_row w9 _ 2 _ _ _ hD9.1]; rfl
          have b3 : w9.cell? ⟨w.heap.size, 3, none⟩ = some (.slice none 0 0) := by rw [cell_of_row w9 _ 3 _ _ _ hD9.1]; rfl
          have yb0 : w9.frozen? ⟨w.heap.size, 0, none⟩ = false := frozen_of_row w9 _ 0 _ _ hD9.1
          have yb1 : w9.frozen? ⟨w.heap.size, 1, none⟩ = false := frozen_of_row w9 _ 1 _ _ hD9.1
          have yb2 : w9.frozen? ⟨w.heap.size, 2, none⟩ = false := frozen_of_row w9 _ 2 _ _ hD9.1
          have yb3 : w9.frozen? ⟨w.heap.size, 3, none⟩ = false := frozen_of_row w9 _ 3 _ _ hD9.1
          have t0 : w9.cell? ⟨T, 0, none⟩ = some (.int .i64 5) := by rw [cell_of_row w9 _ 0 _ _ _ hD9.2.1]; rfl
          have t1 : w9.cell? ⟨T, 1, none⟩ = some (.int .i64 0) := by rw [cell_of_row w9 _ 1 _ _ _ hD9.2.1]; rfl
          have t2 : w9.cell? ⟨T, 2, none⟩ = some (.string ⟨#[]⟩) := by rw [cell_of_row w9 _ 2 _ _ _ hD9.2.1]; rfl
          have t3 : w9.cell? ⟨T, 3, none⟩ = some (.slice av2 lv2 cv2) := by rw [cell_of_row w9 _ 3 _ _ _ hD9.2.1]; rfl
          have yt0 : w9.frozen? ⟨T, 0, none⟩ = false := frozen_of_row w9 _ 0 _ _ hD9.2.1
          have HF : Hid (∀ (k : Int) (Z : World), (k = 4 ∨ k = 5) → Kept w.heap.size (T + 1) w9 Z → DzRes w (.returned (.agg #[.int .i64 k, .int .i64 0, .string ⟨#[]⟩, .slice av2 lv2 cv2])) Z) := fun k Z hk hZ => dz_end hD9 HD5.out.2 hRT hk hZ
          have hne1 : ¬ T = w.heap.size := by omega
          have hne2 : ¬ w.heap.size = T := by omega
          have HRT : Hid (w.heap.size < T) := hRT
          clear hD9 hc9 hg9 HD5 hRT
          cases b9 with
          | true =>
            go_wp2_with fail
            refine bodyPost_ret (v := .agg #[.int .i64 4, .int .i64 0, .string ⟨#[]⟩, .slice av2 lv2 cv2]) (by first | (simp [results, Try.results5, go_sem, b0, b1, b2, b3]; done) | (simp [results, Try.results5, go_sem, b0, b1, b2, b3]; rfl)) rfl (HF.out 4 _ (.inl rfl) ?_)
            have := HRT.out
            repeat (first | with_reducible exact Kept.refl _ _ _ | with_reducible refine Kept.drew ?_ | (with_reducible refine Kept.set ?_ ?_; omega))
          | false =>
            go_wp2_with fail
            refine bodyPost_ret (v := .agg #[.int .i64 5, .int .i64 0, .string ⟨#[]⟩, .slice av2 lv2 cv2]) (by first | (simp [results, Try.results5, go_sem, b0, b1, b2, b3]; done) | (simp [results, Try.results5, go_sem, b0, b1, b2, b3]; rfl)) rfl (HF.out 5 _ (.inr rfl) ?_)
            have := HRT.out
            repeat (first | with_reducible exact Kept.refl _ _ _ | with_reducible refine Kept.drew ?_ | (with_reducible refine Kept.set ?_ ?_; omega))
      | false =>
        have hO2 := l1OnceT_any p len cap a zs 12 w4 HD4.out.1.2.2.1 (HR.out w4 HD4.out.1.2.2.2.1) (by rw [← HP.out.1]; exact HNE.out) (by omega) (by omega) (by omega)
        go_wp2_with fail
        refine hO2.mono ?_
        clear hO2
        rintro e w9 ⟨b9, rfl, hc9, hg9⟩
        have hD9 : DzS w w9 p a len cap T 5 av l c ts := HD4.out.1.grown hg9 hc9 (by have := HP.out.2; omega) HS.out.2
        have hRT : w.heap.size < T := by have := HP.out.2; have := HS.out.2; omega
        have b0 : w9.cell? ⟨w.heap.size, 0, none⟩ = some (.int .i64 0) := by rw [cell_of_row w9 _ 0 _ _ _ hD9.1]; rfl
        have b1 : w9.cell? ⟨w.heap.size, 1, none⟩ = some (.int .i64 0) := by rw [cell_of_row w9 _ 1 _ _ _ hD9.1]; rfl
        have b2 : w9.cell? ⟨w.heap.size, 2, none⟩ = some (.string ⟨#[]⟩) := by rw [cell_of_row w9 _ 2 _ _ _ hD9.1]; rfl
        have b3 : w9.cell? ⟨w.heap.size, 3, none⟩ = some (.slice none 0 0) := by rw [cell_of_row w9 _ 3 _ _ _ hD9.1]; rfl
        have yb0 : w9.frozen? ⟨w.heap.size, 0, none⟩ = false := frozen_of_row w9 _ 0 _ _ hD9.1
        have yb1 : w9.frozen? ⟨w.heap.size, 1, none⟩ = false := frozen_of_row w9 _ 1 _ _ hD9.1
        have yb2 : w9.frozen? ⟨w.heap.size, 2, none⟩ = false := frozen_of_row w9 _ 2 _ _ hD9.1
        have yb3 : w9.frozen? ⟨w.heap.size, 3, none⟩ = false := frozen_of_row w9 _ 3 _ _ hD9.1
        have t0 : w9.cell? ⟨T, 0, none⟩ = some (.int .i64 5) := by rw [cell_of_row w9 _ 0 _ _ _ hD9.2.1]; rfl
        have t1 : w9.cell? ⟨T, 1, none⟩ = some (.int .i64 0) := by rw [cell_of_row w9 _ 1 _ _ _ hD9.2.1]; rfl
        have t2 : w9.cell? ⟨T, 2, none⟩ = some (.string ⟨#[]⟩) := by rw [cell_of_row w9 _ 2 _ _ _ hD9.2.1]; rfl
        have t3 : w9.cell? ⟨T, 3, none⟩ = some (.slice av l c) := by rw [cell_of_row w9 _ 3 _ _ _ hD9.2.1]; rfl
        have yt0 : w9.frozen? ⟨T, 0, none⟩ = false := frozen_of_row w9 _ 0 _ _ hD9.2.1
        have HF : Hid (∀ (k : Int) (Z : World), (k = 4 ∨ k = 5) → Kept w.heap.size (T + 1) w9 Z → DzRes w (.returned (.agg #[.int .i64 k, .int .i64 0, .string ⟨#[]⟩, .slice av l c])) Z) := fun k Z hk hZ => dz_end hD9 HD4.out.2 hRT hk hZ
        have hne1 : ¬ T = w.heap.size := by omega
        have hne2 : ¬ w.heap.size = T := by omega
        have HRT : Hid (w.heap.size < T) := hRT
        clear hD9 hc9 hg9 HD4 hRT
        cases b9 with
        | true =>
          go_wp2_with fail
          refine bodyPost_ret (v := .agg #[.int .i64 4, .int .i64 0, .string ⟨#[]⟩, .slice av l c]) (by first | (simp [results, Try.results5, go_sem, b0, b1, b2, b3]; done) | (simp [results, Try.results5, go_sem, b0, b1, b2, b3]; rfl)) rfl (HF.out 4 _ (.inl rfl) ?_)
          have := HRT.out
          repeat (first | with_reducible exact Kept.refl _ _ _ | with_reducible refine Kept.drew ?_ | (with_reducible refine Kept.set ?_ ?_; omega))
        | false =>
          go_wp2_with fail
          refine bodyPost_ret (v := .agg #[.int .i64 5, .int .i64 0, .string ⟨#[]⟩, .slice av l c]) (by first | (simp [results, Try.results5, go_sem, b0, b1, b2, b3]; done) | (simp [results, Try.results5, go_sem, b0, b1, b2, b3]; rfl)) rfl (HF.out 5 _ (.inr rfl) ?_)
          have := HRT.out
          repeat (first | with_reducible exact Kept.refl _ _ _ | with_reducible refine Kept.drew ?_ | (with_reducible refine Kept.set ?_ ?_; omega))

end Go.Proofs.Ytegfbpidlopfoaa
