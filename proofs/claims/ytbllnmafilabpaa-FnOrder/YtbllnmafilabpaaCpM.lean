/- A copy of a term by the model: the same, in new memory. -/
import Derived.Test.YtbllnmafilabpaaSGetM
import Derived.Test.YtbllnmafilabpaaRLawM
namespace Go.Proofs.Ytbllnmafilabpaa
open Go.RowKit
set_option linter.unusedVariables false

/-- Where a copy of a term stands behind j of its parts. -/
def CMid (d : Nat) (w wr : World) (k n : Int) (s : ByteArray) (l : Value) (ts : List (Tm d)) (j : Nat) : Prop :=
  ∃ (av : Option Addr) (lv cv : Nat) (fp : List Nat), wr.heap[w.heap.size]? = some (.cells #[.int .i64 k, .int .i64 n, .string s, l] 26 (0, 0)) ∧ wr.heap[w.heap.size + 1]? = some (.cells #[.int .i64 0, .int .i64 0, .string ⟨#[]⟩, .slice none 0 0] 26 (0, 0)) ∧
    wr.heap[w.heap.size + 1 + 1]? = some (.cells #[.int .i64 k, .int .i64 n, .string s, .slice av lv cv] 26 (0, 0)) ∧ Below w.heap.size w wr ∧ Made d (w.heap.size + 1 + 1 + 1) wr (.slice av lv cv) (ts.take j) fp

/-- How many at most stand in each list. -/
def FewL : (d : Nat) → List (Tm d) → Prop
  | 0, _ => True
  | d + 1, ts => ts.length ≤ 1048576 ∧ ∀ t ∈ ts, FewL d t.L

/-- The contract of a copy. -/
def CpC (d : Nat) : Prop := ∀ (k n : Int) (s : ByteArray) (l : Value) (ts : List (Tm d)) (w : World), RdL d w l ts → WfL d ts → FewL d ts →
  Calls Try.prog 38 #[.agg #[.int .i64 k, .int .i64 n, .string s, l]] w fun e w' => ∃ av lv cv fp, e = .returned (.agg #[.int .i64 k, .int .i64 n, .string s, .slice av lv cv]) ∧ Hid (Made d (w.heap.size + 1 + 1 + 1) w' (.slice av lv cv) ts fp) ∧ Below w.heap.size w w'

theorem cmid_step {d : Nat} {w wr w' V2 w2 : World} {k n : Int} {s : ByteArray} {l : Value} {ts : List (Tm (d + 1))} {j : Nat} {t : Tm (d + 1)} {av a2 av2 : Option Addr} {lv cv l2 c2 lv2 cv2 : Nat} {fp f2 : List Nat} {cs : List Value}
    (h0 : wr.heap[w.heap.size]? = some (.cells #[.int .i64 k, .int .i64 n, .string s, l] 26 (0, 0))) (h1 : wr.heap[w.heap.size + 1]? = some (.cells #[.int .i64 0, .int .i64 0, .string ⟨#[]⟩, .slice none 0 0] 26 (0, 0))) (h2 : wr.heap[w.heap.size + 1 + 1]? = some (.cells #[.int .i64 k, .int .i64 n, .string s, .slice av lv cv] 26 (0, 0)))
    (hb : Below w.heap.size w wr) (hM : Made (d + 1) (w.heap.size + 1 + 1 + 1) wr (.slice av lv cv) (ts.take j) fp) (hrow : wr.ownsRow (w.heap.size + 1 + 1 + 1) 26 4 (.slice av lv cv) j cs) (ht : ts[j]? = some t) (hwt : WfT (d + 1) t) (hj : j ≤ 1048576)
    (hP : Made d (wr.heap.size + 1 + 1 + 1) w' (.slice a2 l2 c2) t.L f2) (hbw : Below wr.heap.size wr w') (hV2 : Below w'.heap.size w' V2)
    (hown : w2.ownsRow (w.heap.size + 1 + 1 + 1) 26 4 (.slice av2 lv2 cv2) (j + 1) (cs ++ [.int .i64 t.K, .int .i64 t.N, .string t.S, .slice a2 l2 c2])) (hgr : V2.grownBy w2 (Value.slice av lv cv).ownBlock)
    (hat : (Value.slice av2 lv2 cv2).ownBlock = (Value.slice av lv cv).ownBlock ∨ (Value.slice av2 lv2 cv2).ownBlock = some V2.heap.size) : CMid (d + 1) w (w2.setCell ⟨w.heap.size + 1 + 1, 3, none⟩ (.slice av2 lv2 cv2)) k n s l ts (j + 1) := by
  have z0 := lt_of_row' h2
  have z1 := hbw.size
  have z2 := hV2.size
  have z3 := hgr.size
  have hob : ∀ g, (Value.slice av lv cv).ownBlock = some g → w.heap.size + 1 + 1 + 1 ≤ g := fun g hg => by
    rcases hrow.2 with ⟨e, _⟩ | ⟨g', c', cur, e1, e2, e3, _⟩
    · rw [e] at hg; cases hg
    · rw [e1] at hg
      obtain rfl : g' = g := by simpa [Value.ownBlock] using hg
      exact e2
  have hno : ∀ g, g < w.heap.size + 1 + 1 + 1 → some g ≠ (Value.slice av lv cv).ownBlock := fun g hg e => by have := hob g e.symm; omega
  have k1 : ∀ g, g < w.heap.size + 1 + 1 + 1 → w2.heap[g]? = wr.heap[g]? := fun g hg => (hgr.block g (by omega) (hno g hg)).trans ((hV2.block g (by omega)).trans (hbw.block g (by omega)))
  have hbf : Below w.heap.size w w2 := ⟨hgr.os.trans (hV2.os.trans (hbw.os.trans hb.os)), hgr.tape.trans (hV2.tape.trans (hbw.tape.trans hb.tape)), hgr.output.trans (hV2.output.trans (hbw.output.trans hb.output)), by have := hb.size; omega, fun g hg => (k1 g (by omega)).trans (hb.block g hg)⟩
  obtain ⟨cs', fps, r1, r2, r3, r4, r5, r6⟩ := hM
  have hl : (ts.take j).length = j := by
    have := (List.getElem?_eq_some_iff.1 ht).1
    rw [List.length_take]; omega
  rw [hl] at r1
  obtain rfl := row_cs r1 hrow
  subst r3
  obtain ⟨a', l', c', f3, e3, q1, q2, q3⟩ := hP.own
  have kp : ∀ g, g < wr.heap.size → V2.heap[g]? = wr.heap[g]? := fun g hg => (hV2.block g (by omega)).trans (hbw.block g hg)
  have hF : Fresh (w.heap.size + 1 + 1 + 1) V2 ((Value.slice av lv cv).ownBlock.toList ++ fps.flatten) := ⟨r4.1, fun g hg => ⟨(r4.2 g hg).1, by have := (r4.2 g hg).2; omega⟩⟩
  have hpn : ∀ g ∈ (Value.slice av lv cv).ownBlock.toList ++ fps.flatten, V2.heap[g]? = wr.heap[g]? := fun g hg => kp g (r4.2 g hg).2
  obtain ⟨fp', hm, _⟩ := made_step (w := V2) (t := t) (f := f3) (ts := ts.take j) (by rw [hl]; exact rowKept r1 fun g hg => hpn g (List.mem_append_left _ (by rw [hg]; exact List.mem_singleton.2 rfl))) r2 hF r5 (r6.frame fun g hg => hpn g (List.mem_append_right _ hg))
    (q1.frame fun g hg => hV2.block g (q2.2 g hg).2) ⟨q2.1, fun g hg => ⟨by have := (q2.2 g hg).1; omega, by have := (q2.2 g hg).2; omega⟩⟩ (fun g hg hf => by have := (q2.2 g hg).1; have := (r4.2 g hf).2; omega) hwt (by omega) (by omega) (by rw [hl]; exact hown) hgr hat
  have htk : ts.take (j + 1) = ts.take j ++ [t] := by
    have hlt := (List.getElem?_eq_some_iff.1 ht).1
    have he := (List.getElem?_eq_some_iff.1 ht).2
    rw [List.take_succ_eq_append_getElem hlt, he]
  refine ⟨av2, lv2, cv2, fp', ?_, ?_, heap_setCell_same w2 _ 3 _ _ _ ((k1 _ (by omega)).trans h2), hbf.trans ((Turned.of_set w2 _ 3 _).below (by omega) hbf.size), ?_⟩
  · rw [heap_setCell_other _ _ _ _ (by show w.heap.size ≠ w.heap.size + 1 + 1; omega)]
    exact (k1 _ (by omega)).trans h0
  · rw [heap_setCell_other _ _ _ _ (by show w.heap.size + 1 ≠ w.heap.size + 1 + 1; omega)]
    exact (k1 _ (by omega)).trans h1
  · rw [htk]
    refine hm.frame (fun g hg => ?_) (by simp)
    obtain ⟨_, _, _, _, _, h4, _⟩ := hm
    exact heap_setCell_other _ _ _ _ (by have := (h4.2 g hg).1; show g ≠ w.heap.size + 1 + 1; omega)

end Go.Proofs.Ytbllnmafilabpaa

/- A copy of a term by the model: the walk. -/
namespace Go.Proofs.Ytbllnmafilabpaa
open Go.RowKit
set_option linter.unusedVariables false

theorem made_empty {m B g : Nat} {w : World} (h : w.heap[g]? = some (.cells #[] 26 (0, 0))) (hB : B ≤ g) : Made m B w (.slice (some ⟨g, 0, none⟩) 0 0) ([] : List (Tm m)) [g] := by
  refine ⟨[], [], ⟨rfl, .inr ⟨g, 0, #[], rfl, hB, h, Nat.le_refl _, Nat.zero_le _, rfl, rfl⟩⟩, rfl, rfl, ⟨by simp, fun x hx => by obtain rfl := List.mem_singleton.1 hx; exact ⟨hB, lt_of_row' h⟩⟩, ?_, ?_⟩
  · cases m with
    | zero => trivial
    | succ m => exact ⟨Nat.zero_le _, fun t h => by cases h⟩
  · cases m with
    | zero => trivial
    | succ m => exact fun i u hu => by simp at hu

theorem cmid_start (d : Nat) (w : World) (k n : Int) (s : ByteArray) (l : Value) (ts : List (Tm d)) : CMid d w ((((w.alloc (.cells #[.int .i64 k, .int .i64 n, .string s, l] 26)).alloc (.cells #[.int .i64 0, .int .i64 0, .string ⟨#[]⟩, .slice none 0 0] 26)).alloc (.cells #[.int .i64 k, .int .i64 n, .string s, .slice (some ⟨w.heap.size + 1 + 1 + 1, 0, none⟩) 0 0] 26)).alloc (.cells #[] 26)) k n s l ts 0 := by
  obtain ⟨w1, h1⟩ : ∃ w1, w1 = w.alloc (.cells #[.int .i64 k, .int .i64 n, .string s, l] 26) := ⟨_, rfl⟩
  obtain ⟨w2, h2⟩ : ∃ w2, w2 = w1.alloc (.cells #[.int .i64 0, .int .i64 0, .string ⟨#[]⟩, .slice none 0 0] 26) := ⟨_, rfl⟩
  obtain ⟨w3, h3⟩ : ∃ w3, w3 = w2.alloc (.cells #[.int .i64 k, .int .i64 n, .string s, .slice (some ⟨w.heap.size + 1 + 1 + 1, 0, none⟩) 0 0] 26) := ⟨_, rfl⟩
  obtain ⟨w4, h4⟩ : ∃ w4, w4 = w3.alloc (.cells #[] 26) := ⟨_, rfl⟩
  have z1 : w1.heap.size = w.heap.size + 1 := by rw [h1]; simp
  have z2 : w2.heap.size = w.heap.size + 1 + 1 := by rw [h2]; simp [z1]
  have z3 : w3.heap.size = w.heap.size + 1 + 1 + 1 := by rw [h3]; simp [z2]
  have b1 : Below w.heap.size w w1 := by rw [h1]; exact (Below.refl _ _).alloc (Nat.le_refl _) _
  have b2 : Below w1.heap.size w1 w2 := by rw [h2]; exact (Below.refl _ _).alloc (Nat.le_refl _) _
  have b3 : Below w2.heap.size w2 w3 := by rw [h3]; exact (Below.refl _ _).alloc (Nat.le_refl _) _
  have b4 : Below w3.heap.size w3 w4 := by rw [h4]; exact (Below.refl _ _).alloc (Nat.le_refl _) _
  have n1 : w1.heap[w.heap.size]? = some (.cells #[.int .i64 k, .int .i64 n, .string s, l] 26 (0, 0)) := by rw [h1]; exact heap_alloc_new w _
  have n2 : w2.heap[w1.heap.size]? = some (.cells #[.int .i64 0, .int .i64 0, .string ⟨#[]⟩, .slice none 0 0] 26 (0, 0)) := by rw [h2]; exact heap_alloc_new w1 _
  have n3 : w3.heap[w2.heap.size]? = some (.cells #[.int .i64 k, .int .i64 n, .string s, .slice (some ⟨w.heap.size + 1 + 1 + 1, 0, none⟩) 0 0] 26 (0, 0)) := by rw [h3]; exact heap_alloc_new w2 _
  have n4 : w4.heap[w3.heap.size]? = some (.cells #[] 26 (0, 0)) := by rw [h4]; exact heap_alloc_new w3 _
  rw [← h1, ← h2, ← h3, ← h4]
  rw [z1] at n2
  rw [z2] at n3
  rw [z3] at n4
  exact ⟨_, _, _, _, (b4.block _ (by omega)).trans ((b3.block _ (by omega)).trans ((b2.block _ (by omega)).trans n1)), (b4.block _ (by omega)).trans ((b3.block _ (by omega)).trans n2), (b4.block _ (by omega)).trans n3, b1.trans ((b2.trans ((b3.trans (b4.mono b3.size)).mono b2.size)).mono b1.size), made_empty n4 (Nat.le_refl _)⟩

set_option maxRecDepth 100000 in
set_option maxHeartbeats 2000000 in
theorem l2Copy_of (d : Nat) (H : ∀ d', d = d' + 1 → CpC d') : CpC d := by
  intro k n s l ts w hr hw hf
  obtain ⟨a, c, e⟩ := hr.len
  obtain ⟨len, hlen⟩ : ∃ len, ts.length = len := ⟨_, rfl⟩
  rw [hlen] at e
  subst e
  have hln : len ≤ 1048576 := by
    cases d with
    | zero => have : ts = [] := by { cases ts with | nil => rfl | cons t _ => exact Empty.elim t }
              subst this; rw [← hlen]; exact Nat.zero_le _
    | succ d => rw [← hlen]; exact hf.1
  have HR : Hid (RdL d w (.slice a len c) ts) := hr
  have HW : Hid (WfL d ts) := hw
  have HFW : Hid (FewL d ts) := hf
  have HH : Hid (∀ d', d = d' + 1 → CpC d') := H
  have HLN : Hid (ts.length = len) := hlen
  have H0 : Hid (CMid d w _ k n s (.slice a len c) ts 0) := cmid_start d w k n s (.slice a len c) ts
  clear hr hw hf H hlen
  go_enter Try.func38, Try.ntmps38
  go_wp2_with fail
  go_loopw [4] (fun i wr => ∃ j : Nat, j ≤ len ∧ i = .int .i64 j ∧ Hid (CMid d w wr k n s (.slice a len c) ts j)) (fun i _ => len - (intOf i).toNat)
  case atStart => exact ⟨0, Nat.zero_le _, rfl, H0⟩
  case round =>
    obtain ⟨j, hj, rfl, HM⟩ := hrel
    clear H0
    obtain ⟨av, lv, cv, fp, h0, h1, h2, hb, hM⟩ := HM.out
    have b3 : wr.cell? ⟨w.heap.size, 3, none⟩ = some (.slice a len c) := by rw [cell_of_row wr _ 3 _ _ _ h0]; rfl
    have t0 : wr.cell? ⟨w.heap.size + 1 + 1, 0, none⟩ = some (.int .i64 k) := by rw [cell_of_row wr _ 0 _ _ _ h2]; rfl
    have t1 : wr.cell? ⟨w.heap.size + 1 + 1, 1, none⟩ = some (.int .i64 n) := by rw [cell_of_row wr _ 1 _ _ _ h2]; rfl
    have t2 : wr.cell? ⟨w.heap.size + 1 + 1, 2, none⟩ = some (.string s) := by rw [cell_of_row wr _ 2 _ _ _ h2]; rfl
    have t3 : wr.cell? ⟨w.heap.size + 1 + 1, 3, none⟩ = some (.slice av lv cv) := by rw [cell_of_row wr _ 3 _ _ _ h2]; rfl
    by_cases hlt : j < len
    · have hlt' : (j : Int) < (len : Int) := by omega
      cases d with
      | zero => exact absurd HLN.out (by have : ts = [] := by { cases ts with | nil => rfl | cons t _ => exact Empty.elim t }
                                         subst this; simp; omega)
      | succ d =>
        obtain ⟨t, ht⟩ : ∃ t, ts[j]? = some t := ⟨_, List.getElem?_eq_getElem (by rw [HLN.out]; exact hlt)⟩
        obtain ⟨a', c', e', hel⟩ := HR.out
        simp only [Value.slice.injEq] at e'
        obtain ⟨bb, oo, tv, g1, g2, g3⟩ := hel j t ht
        obtain rfl : a = some ⟨bb, oo, none⟩ := e'.1.trans g1
        obtain ⟨xa, xc, ex⟩ := g3.len
        obtain ⟨xl, hxl⟩ : ∃ xl, t.L.length = xl := ⟨_, rfl⟩
        rw [hxl] at ex
        subst ex
        obtain ⟨f0, f1, f2, f3⟩ := g2.later hb
        obtain ⟨cs, hcs⟩ := made_row hM
        have hl : (ts.take j).length = j := by rw [List.length_take, HLN.out]; omega
        rw [hl] at hcs
        have hwt : WfT (d + 1) t := HW.out.2 t (List.mem_of_getElem? ht)
        have HC : Hid (∀ V : World, Below wr.heap.size wr V → Calls Try.prog 38 #[.agg #[.int .i64 t.K, .int .i64 t.N, .string t.S, .slice xa xl xc]] V fun e w' => ∃ a2 l2 c2 f2, e = .returned (.agg #[.int .i64 t.K, .int .i64 t.N, .string t.S, .slice a2 l2 c2]) ∧ Hid (Made d (V.heap.size + 1 + 1 + 1) w' (.slice a2 l2 c2) t.L f2) ∧ Below V.heap.size V w') := fun V hV => HH.out d rfl t.K t.N t.S _ t.L V ((g3.later hb).later hV) hwt.2.2.2 (HFW.out.2 t (List.mem_of_getElem? ht))
        have HAFT : Hid (∀ (w' : World) (a2 : Option Addr) (l2 c2 : Nat) (f2 : List Nat), Made d (wr.heap.size + 1 + 1 + 1) w' (.slice a2 l2 c2) t.L f2 → Below wr.heap.size wr w' → w'.cell? ⟨w.heap.size + 1 + 1, 3, none⟩ = some (.slice av lv cv) ∧ w.heap.size + 1 + 1 < w'.heap.size ∧ w'.ownsRow (w.heap.size + 1 + 1 + 1) 26 4 (.slice av lv cv) j cs ∧
            Hid (∀ (w2 : World) (av2 : Option Addr) (lv2 cv2 : Nat), w2.ownsRow (w.heap.size + 1 + 1 + 1) 26 4 (.slice av2 lv2 cv2) (j + 1) (cs ++ [.int .i64 t.K, .int .i64 t.N, .string t.S, .slice a2 l2 c2]) → (w'.alloc (.cells #[.int .i64 t.K, .int .i64 t.N, .string t.S, .slice a2 l2 c2] 26)).grownBy w2 (Value.slice av lv cv).ownBlock →
              ((Value.slice av2 lv2 cv2).ownBlock = (Value.slice av lv cv).ownBlock ∨ (Value.slice av2 lv2 cv2).ownBlock = some (w'.alloc (.cells #[.int .i64 t.K, .int .i64 t.N, .string t.S, .slice a2 l2 c2] 26)).heap.size) →
              w2.cell? ⟨w.heap.size + 1 + 1, 3, none⟩ = some (.slice av lv cv) ∧ w2.frozen? ⟨w.heap.size + 1 + 1, 3, none⟩ = false ∧ Hid (CMid (d + 1) w (w2.setCell ⟨w.heap.size + 1 + 1, 3, none⟩ (.slice av2 lv2 cv2)) k n s (.slice (some ⟨bb, oo, none⟩) len c) ts (j + 1)))) := fun w' a2 l2 c2 f2 hP hbw => by
          have z0 := lt_of_row' h2
          have z1 := hbw.size
          have h2' := (hbw.block _ z0).trans h2
          have hA1 : Below w'.heap.size w' (w'.alloc (.cells #[.int .i64 t.K, .int .i64 t.N, .string t.S, .slice a2 l2 c2] 26)) := (Below.refl _ _).alloc (Nat.le_refl _) _
          have hob : ∀ g, (Value.slice av lv cv).ownBlock = some g → w.heap.size + 1 + 1 + 1 ≤ g ∧ g < wr.heap.size := fun g hg => by
            rcases hcs.2 with ⟨e, _⟩ | ⟨g', c', cur, e1, e2, e3, _⟩
            · rw [e] at hg; cases hg
            · rw [e1] at hg
              obtain rfl : g' = g := by simpa [Value.ownBlock] using hg
              exact ⟨e2, lt_of_row' e3⟩
          refine ⟨by rw [cell_of_row w' _ 3 _ _ _ h2']; rfl, by omega, rowKept hcs fun g hg => hbw.block g (hob g hg).2, fun w2 av2 lv2 cv2 i1 i2 i3 => ?_⟩
          have hT2 := (i2.block _ (by simp; omega) (fun e => by have := (hob _ e.symm).1; omega)).trans ((hA1.block _ (by omega)).trans h2')
          exact ⟨by rw [cell_of_row w2 _ 3 _ _ _ hT2]; rfl, frozen_of_row w2 _ 3 _ _ hT2, cmid_step h0 h1 h2 hb hM hcs ht hwt (by omega) hP hbw hA1 i1 i2 i3⟩
        obtain ⟨i0, hi, hi0, hi1, hi2⟩ := info_parts Try.infoTerm
        clear h0 h1 h2 hb hM hcs HM hwt g2 g3 HH hel e' hxl
        go_wp2_with fail
        go_region_law (first
          | (refine step_append_own rfl (.tmp 16) (.tmp 23) 24 rfl (w.heap.size + 1 + 1 + 1) 26 i0 (.agg #[.int .i64 0, .int .i64 0, .string ⟨#[]⟩, .slice none 0 0]) 4 56 Try.underlying24 hi hi0 hi1 hi2 rfl (by decide) (.slice av lv cv) j cs (by simp [Act.eval]) (hcs'.alloc _) ⟨w'.heap.size, 0, none⟩ 1 1 [.int .i64 t.K, .int .i64 t.N, .string t.S, .slice a2 l2 c2] (by simp [Act.eval]) rfl (four_new w' _ _ _ _ _) (by intro u hu; simp at hu; rcases hu with rfl | rfl | rfl | rfl <;> rfl) (by unfold maxLen; omega) (by omega) (by simp; omega) ?_; intro v' w2 hown2 hgrow2 hat; obtain ⟨av2, lv2, cv2, rfl⟩ := row_slice hown2; obtain ⟨v3, v3', HM2⟩ := HA.out w2 av2 lv2 cv2 hown2 hgrow2 hat)
          | (go_simp; go_at_call 38; refine (HC.out _ (by first | exact (Below.refl _ _).drew | exact Below.refl _ _)).mono ?_; rintro e w' ⟨a2, l2, c2, f2, rfl, HP0, hbw⟩; have hbw' : Below wr.heap.size wr w' := (by first | exact hbw | exact (Below.refl _ _).drew.trans hbw); obtain ⟨t3', hTz', hcs', HA⟩ := HAFT.out w' a2 l2 c2 f2 HP0.out hbw'))
        all_goals
          clear hown2 hgrow2 hat HA hcs' hbw hbw'
          go_wp2_with fail
          go_roundw
          case rel => exact ⟨j + 1, by omega, by go_num, HM2⟩
          case measure => simp [intOf]; omega
    · obtain rfl : j = len := by omega
      have htk : ts.take j = ts := List.take_of_length_le (by rw [HLN.out]; exact Nat.le_refl _)
      have z0 := lt_of_row' h2
      have S : ∀ (Z : World), Z.heap[w.heap.size + 1]? = some (.cells #[.int .i64 k, .int .i64 n, .string s, .slice av lv cv] 26 (0, 0)) → Z.cell? ⟨w.heap.size + 1, 0, none⟩ = some (.int .i64 k) ∧ Z.cell? ⟨w.heap.size + 1, 1, none⟩ = some (.int .i64 n) ∧ Z.cell? ⟨w.heap.size + 1, 2, none⟩ = some (.string s) ∧ Z.cell? ⟨w.heap.size + 1, 3, none⟩ = some (.slice av lv cv) := fun Z hZ => ⟨by rw [cell_of_row Z _ 0 _ _ _ hZ]; rfl, by rw [cell_of_row Z _ 1 _ _ _ hZ]; rfl, by rw [cell_of_row Z _ 2 _ _ _ hZ]; rfl, by rw [cell_of_row Z _ 3 _ _ _ hZ]; rfl⟩
      have r0 : wr.cell? ⟨w.heap.size + 1, 0, none⟩ = some (.int .i64 0) := by rw [cell_of_row wr _ 0 _ _ _ h1]; rfl
      have r1 : wr.cell? ⟨w.heap.size + 1, 1, none⟩ = some (.int .i64 0) := by rw [cell_of_row wr _ 1 _ _ _ h1]; rfl
      have r2 : wr.cell? ⟨w.heap.size + 1, 2, none⟩ = some (.string ⟨#[]⟩) := by rw [cell_of_row wr _ 2 _ _ _ h1]; rfl
      have r3 : wr.cell? ⟨w.heap.size + 1, 3, none⟩ = some (.slice none 0 0) := by rw [cell_of_row wr _ 3 _ _ _ h1]; rfl
      have y0 : wr.frozen? ⟨w.heap.size + 1, 0, none⟩ = false := frozen_of_row wr _ _ _ _ h1
      have y1 : wr.frozen? ⟨w.heap.size + 1, 1, none⟩ = false := frozen_of_row wr _ _ _ _ h1
      have y2 : wr.frozen? ⟨w.heap.size + 1, 2, none⟩ = false := frozen_of_row wr _ _ _ _ h1
      have y3 : wr.frozen? ⟨w.heap.size + 1, 3, none⟩ = false := frozen_of_row wr _ _ _ _ h1
      have HFN : Hid (∀ Z : World, Turned (w.heap.size + 1) wr Z → Made d (w.heap.size + 1 + 1 + 1) Z (.slice av lv cv) ts fp ∧ Below w.heap.size w Z) := fun Z hZ => by
        rw [htk] at hM
        refine ⟨hM.frame (fun g hg => ?_) hZ.size, hb.trans (hZ.below (by omega) hb.size)⟩
        obtain ⟨_, _, _, _, _, h4, _⟩ := hM
        exact hZ.block g (h4.2 g hg).2 (by have := (h4.2 g hg).1; omega)
      clear h0 h1 h2 hb hM HM HH htk S
      go_wp2_with fail
      refine bodyPost_ret (v := .agg #[.int .i64 k, .int .i64 n, .string s, .slice av lv cv]) (by first | (simp [results, Try.results38, go_sem, r0, r1, r2, r3]; done) | (simp [results, Try.results38, go_sem, r0, r1, r2, r3]; rfl)) rfl ⟨av, lv, cv, fp, rfl, (HFN.out _ ?_).1, (HFN.out _ ?_).2⟩
      all_goals repeat (first | exact Turned.refl _ _ | refine Turned.trans ?_ (Turned.of_set _ _ _ _))

theorem l2Copy_any : ∀ d, CpC d := by
  intro d
  induction d with
  | zero => exact l2Copy_of 0 (fun d' e => by omega)
  | succ d ih => exact l2Copy_of (d + 1) (fun d' e => by obtain rfl : d = d' := by omega
                                                         exact ih)

end Go.Proofs.Ytbllnmafilabpaa
