/- A copy of a term by the model: the same, in new memory. -/
import Derived.Test.YthjmbbpakidkdaaDrTm
import Derived.Test.YthjmbbpakidkdaaRLaw
namespace Go.Proofs.Ythjmbbpakidkdaa
open Go.RowKit
set_option linter.unusedVariables false

/-- Where a copy of a term stands behind j of its parts. -/
def CMid (d : Nat) (w wr : World) (k n : Int) (s : ByteArray) (l : Value) (ts : List (Tm d)) (j : Nat) : Prop :=
  ∃ (av : Option Addr) (lv cv : Nat) (fp : List Nat), wr.heap[w.heap.size]? = some (.cells #[.int .i64 k, .int .i64 n, .string s, l] 26 (0, 0)) ∧ wr.heap[w.heap.size + 1]? = some (.cells #[.int .i64 0, .int .i64 0, .string ⟨#[]⟩, .slice none 0 0] 26 (0, 0)) ∧
    wr.heap[w.heap.size + 1 + 1]? = some (.cells #[.int .i64 k, .int .i64 n, .string s, .slice av lv cv] 26 (0, 0)) ∧ Below w.heap.size w wr ∧ Made d (w.heap.size + 1 + 1 + 1) wr (.slice av lv cv) (ts.take j) fp

/-- How many at most stand in each list. -/
def FewL : (d : Nat) → List (Tm d) → Prop
  | 0, _ => True
  | d + 1, ts => ts.length ≤ 1048576 ∧ ∀ t ∈ ts, FewL d t.L

/-- The contract of a copy. -/
def CpC (d : Nat) : Prop := ∀ (k n : Int) (s : ByteArray) (l : Value) (ts : List (Tm d)) (w : World), RdL d w l ts → WfL d ts → FewL d ts →
  Calls Try.prog 132 #[.agg #[.int .i64 k, .int .i64 n, .string s, l]] w fun e w' => ∃ av lv cv fp, e = .returned (.agg #[.int .i64 k, .int .i64 n, .string s, .slice av lv cv]) ∧ Hid (Made d (w.heap.size + 1 + 1 + 1) w' (.slice av lv cv) ts fp) ∧ Below w.heap.size w w'

theorem cmid_step {d : Nat} {w wr w' V2 w2 : World} {k n : Int} {s : ByteArray} {l : Value} {ts : List (Tm (d + 1))} {j : Nat} {t : Tm (d + 1)} {av a2 av2 : Option Addr} {lv cv l2 c2 lv2 cv2 : Nat} {fp f2 : List Nat} {cs : List Value}
    (h0 : wr.heap[w.heap.size]? = some (.cells #[.int .i64 k, .int .i64 n, .string s, l] 26 (0, 0))) (h1 : wr.heap[w.heap.size + 1]? = some (.cells #[.int .i64 0, .int .i64 0, .string ⟨#[]⟩, .slice none 0 0] 26 (0, 0))) (h2 : wr.heap[w.heap.size + 1 + 1]? = some (.cells #[.int .i64 k, .int .i64 n, .string s, .slice av lv cv] 26 (0, 0)))
    (hb : Below w.heap.size w wr) (hM : Made (d + 1) (w.heap.size + 1 + 1 + 1) wr (.slice av lv cv) (ts.take j) fp) (hrow : wr.ownsRow (w.heap.size + 1 + 1 + 1) 26 4 (.slice av lv cv) j cs) (ht : ts[j]? = some t) (hwt : WfT (d + 1) t) (hj : j ≤ 1048576)
    (hP : Made d (wr.heap.size + 1 + 1 + 1) w' (.slice a2 l2 c2) t.L f2) (hbw : Below wr.heap.size wr w') (hV2 : Below w'.heap.size w' V2)
    (hown : w2.ownsRow (w.heap.size + 1 + 1 + 1) 26 4 (.slice av2 lv2 cv2) (j + 1) (cs ++ [.int .i64 t.K, .int .i64 t.N, .string t.S, .slice a2 l2 c2])) (hgr : V2.grownBy w2 (Value.slice av lv cv).ownBlock)
    (hat : (Value.slice av2 lv2 cv2).ownBlock = (Value.slice av lv cv).ownBlock ∨ (Value.slice av2 lv2 cv2).ownBlock = some V2.heap.size) : CMid (d + 1) w (w2.setCell ⟨w.heap.size + 1 + 1, 3, none⟩ (.slice av2 lv2 cv2)) k n s l ts (j + 1) := by
  have z0 := lt_of_row' h2
  have z1 := hbw.size
  have z2 := hV2.size
  have z3 := hgr.size
  have hob : ∀ g, (Value.slice av lv cv).ownBlock = some g → w.heap.size + 1 + 1 + 1 ≤ g := fun g hg => by
    rcases hrow.2 with ⟨e, _⟩ | ⟨g', c', cur, e1, e2, e3, _⟩
    · rw [e] at hg; cases hg
    · rw [e1] at hg
      obtain rfl : g' = g := by simpa [Value.ownBlock] using hg
      exact e2
  have hno : ∀ g, g < w.heap.size + 1 + 1 + 1 → some g ≠ (Value.slice av lv cv).ownBlock := fun g hg e => by have := hob g e.symm; omega
  have k1 : ∀ g, g < w.heap.size + 1 + 1 + 1 → w2.heap[g]? = wr.heap[g]? := fun g hg => (hgr.block g (by omega) (hno g hg)).trans ((hV2.block g (by omega)).trans (hbw.block g (by omega)))
  have hbf : Below w.heap.size w w2 := ⟨hgr.os.trans (hV2.os.trans (hbw.os.trans hb.os)), hgr.tape.trans (hV2.tape.trans (hbw.tape.trans hb.tape)), hgr.output.trans (hV2.output.trans (hbw.output.trans hb.output)), by have := hb.size; omega, fun g hg => (k1 g (by omega)).trans (hb.block g hg)⟩
  obtain ⟨cs', fps, r1, r2, r3, r4, r5, r6⟩ := hM
  have hl : (ts.take j).length = j := by
    have := (List.getElem?_eq_some_iff.1 ht).1
    rw [List.length_take]; omega
  rw [hl] at r1
  obtain rfl := row_cs r1 hrow
  subst r3
  obtain ⟨a', l', c', f3, e3, q1, q2, q3⟩ := hP.own
  have kp : ∀ g, g < wr.heap.size → V2.heap[g]? = wr.heap[g]? := fun g hg => (hV2.block g (by omega)).trans (hbw.block g hg)
  have hF : Fresh (w.heap.size + 1 + 1 + 1) V2 ((Value.slice av lv cv).ownBlock.toList ++ fps.flatten) := ⟨r4.1, fun g hg => ⟨(r4.2 g hg).1, by have := (r4.2 g hg).2; omega⟩⟩
  have hpn : ∀ g ∈ (Value.slice av lv cv).ownBlock.toList ++ fps.flatten, V2.heap[g]? = wr.heap[g]? := fun g hg => kp g (r4.2 g hg).2
  obtain ⟨fp', hm, _⟩ := made_step (w := V2) (t := t) (f := f3) (ts := ts.take j) (by rw [hl]; exact rowKept r1 fun g hg => hpn g (List.mem_append_left _ (by rw [hg]; exact List.mem_singleton.2 rfl))) r2 hF r5 (r6.frame fun g hg => hpn g (List.mem_append_right _ hg))
    (q1.frame fun g hg => hV2.block g (q2.2 g hg).2) ⟨q2.1, fun g hg => ⟨by have := (q2.2 g hg).1; omega, by have := (q2.2 g hg).2; omega⟩⟩ (fun g hg hf => by have := (q2.2 g hg).1; have := (r4.2 g hf).2; omega) hwt (by omega) (by omega) (by rw [hl]; exact hown) hgr hat
  have htk : ts.take (j + 1) = ts.take j ++ [t] := by
    have hlt := (List.getElem?_eq_some_iff.1 ht).1
    have he := (List.getElem?_eq_some_iff.1 ht).2
    rw [List.take_succ_eq_append_getElem hlt, he]
  refine ⟨av2, lv2, cv2, fp', ?_, ?_, heap_setCell_same w2 _ 3 _ _ _ ((k1 _ (by omega)).trans h2), hbf.trans ((Turned.of_set w2 _ 3 _).below (by omega) hbf.size), ?_⟩
  · rw [heap_setCell_other _ _ _ _ (by show w.heap.size ≠ w.heap.size + 1 + 1; omega)]
    exact (k1 _ (by omega)).trans h0
  · rw [heap_setCell_other _ _ _ _ (by show w.heap.size + 1 ≠ w.heap.size + 1 + 1; omega)]
    exact (k1 _ (by omega)).trans h1
  · rw [htk]
    refine hm.frame (fun g hg => ?_) (by simp)
    obtain ⟨_, _, _, _, _, h4, _⟩ := hm
    exact heap_setCell_other _ _ _ _ (by have := (h4.2 g hg).1; show g ≠ w.heap.size + 1 + 1; omega)

end Go.Proofs.Ythjmbbpakidkdaa
