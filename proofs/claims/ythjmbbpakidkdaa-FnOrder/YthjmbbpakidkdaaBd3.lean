/- A drawn term, bent or not: the walk. -/
import Derived.Test.YthjmbbpakidkdaaBd2
namespace Go.Proofs.Ythjmbbpakidkdaa
open Go.RowKit
set_option linter.unusedVariables false

/-- What a draw of any term hands on. -/
def APost (w w' : World) (k n : Int) (s : ByteArray) (v : Value) : Prop := AnyT w' w.heap.size k n s v 200

set_option maxRecDepth 100000 in
set_option maxHeartbeats 2000000 in
theorem l2Any_any (p len cap : Nat) (a : Option Addr) (zs : List Int) (w : World) (hc : Cur w p a len cap) (hr : IsRow .u8 w a len cap zs) (hne : ∀ x, a = some x → 0 < cap → x.block ≠ p) (hmx : len ≤ 4611686018427387904) :
    Calls Try.prog 68 #[.pointer (some ⟨p, 0, none⟩)] w fun e w' => ∃ k n s av lv cv, e = .returned (.agg #[.int .i64 k, .int .i64 n, .string s, .slice av lv cv]) ∧ Hid (BPost p a len cap w w' k n s (.slice av lv cv)) := by
  have hp := hc.lt
  obtain ⟨W1, hW1⟩ : ∃ W, W = w.alloc (.cells #[.int .i64 0, .int .i64 0, .string ⟨#[]⟩, .slice none 0 0] 26) := ⟨_, rfl⟩
  have hz1 : W1.heap.size = w.heap.size + 1 := by rw [hW1]; simp
  have hg1 : w.grownBy W1 (some p) := by rw [hW1]; exact World.grownBy_alloc w _ (some p)
  have n1 : W1.heap[w.heap.size]? = some (.cells #[.int .i64 0, .int .i64 0, .string ⟨#[]⟩, .slice none 0 0] 26 (0, 0)) := by rw [hW1]; exact heap_alloc_new w _
  have hc1 : Cur W1 p a len cap := by rw [hW1]; exact hc.same (Below.heap_alloc w _ p hp)
  have hr1 := hr.grown hg1 hne
  have hD := l2Draw_any 3 (by omega) p len cap a zs W1 hc1 hr1 hne hmx
  rw [show ((3 : Nat) : Int) = 3 from rfl, hW1] at hD
  have HW1 : Hid (W1 = _) := hW1
  have HNE : Hid (∀ x, a = some x → 0 < cap → x.block ≠ p) := hne
  clear hW1 hne hc1
  go_enter Try.func68, Try.ntmps68
  go_wp2_with fail
  refine hD.mono ?_
  clear hD
  rintro e w2 ⟨k, x, s, av, l, cv, rfl, HP⟩
  rw [← HW1.out] at HP
  obtain ⟨hc2, hg2, t, fp, hown, hfr, hwf, hsm⟩ := HP.out
  obtain ⟨a', l', c', ev, hown⟩ := hown
  simp only [Value.agg.injEq] at ev
  have ev2 : ([.int .i64 k, .int .i64 x, .string s, .slice av l cv] : List Value) = [.int .i64 t.K, .int .i64 t.N, .string t.S, .slice a' l' c'] := by simpa using congrArg Array.toList ev
  simp only [List.cons.injEq, Value.int.injEq, Value.string.injEq, Value.slice.injEq, true_and, and_true] at ev2
  obtain ⟨rfl, rfl, rfl, rfl, rfl, rfl⟩ := ev2
  have hA2 : AnyT w2 (w.heap.size + 1) t.K t.N t.S (.slice av l cv) 64 := by
    have hcnt := sm_cnt 3 t.L hsm.2.2.2 hsm.2.2.1
    have h64 : (4 : Nat) ^ 3 = 64 := by decide
    exact ⟨3, t.L, fp, hown, fun g hg => by have := hfr.2 g hg; omega, hwf.2.2.2, hwf.1, hwf.2.1, by have := hsm.2.1; omega, by omega⟩
  have n2 := (hg2.block _ (by omega) (by simp; omega)).trans n1
  have hz2 := hg2.size
  obtain ⟨W3, hW3⟩ : ∃ W, W = w2.alloc (.cells #[.int .i64 t.K, .int .i64 t.N, .string t.S, .slice av l cv] 26) := ⟨_, rfl⟩
  have hg3 : w2.grownBy W3 (some p) := by rw [hW3]; exact World.grownBy_alloc w2 _ (some p)
  have hb3 : Below w2.heap.size w2 W3 := by rw [hW3]; exact (Below.refl _ _).alloc (Nat.le_refl _) _
  have n3 : W3.heap[w2.heap.size]? = some (.cells #[.int .i64 t.K, .int .i64 t.N, .string t.S, .slice av l cv] 26 (0, 0)) := by rw [hW3]; exact heap_alloc_new w2 _
  have m3 := (hb3.block _ (by omega)).trans n2
  have hz3 : W3.heap.size = w2.heap.size + 1 := by rw [hW3]; simp
  have hgw3 : w.grownBy W3 (some p) := grownBy_trans (grownBy_trans hg1 hg2) hg3
  have hc3 : Cur W3 p a len cap := hc2.same (hb3.block p hc2.lt)
  have hr3 := hr.grown hgw3 HNE.out
  have HOW : Hid (OwnL 3 W3 (.slice av l cv) t.L fp ∧ ∀ g ∈ fp, p < g ∧ g < W3.heap.size) := ⟨hown.frame fun g hg => hb3.block g (hfr.2 g hg).2, fun g hg => by have := hfr.2 g hg; omega⟩
  have hA3 := hA2.frame (w' := W3) (fun g _ h2 => hb3.block g h2) hb3.size
  have hO := l1OnceT_any p len cap a zs 5 W3 hc3 hr3 HNE.out hmx (by omega) (by omega)
  rw [hW3] at hO
  have HW3 : Hid (W3 = _) := hW3
  have HT : Hid (SmT 4 t ∧ WfT 4 t) := ⟨hsm, hwf⟩
  clear hW3 HP hown hfr hwf hsm hA2 n2 n1 hg1 hg2 hc2 hr1 HW1 ev
  go_wp2_with fail
  refine hO.mono ?_
  clear hO
  rintro e w4 ⟨b, rfl, hc4, hg4⟩
  rw [← HW3.out] at hg4
  have n4 := (hg4.block _ (by omega) (by simp; omega)).trans n3
  have m4 := (hg4.block _ (by omega) (by simp; omega)).trans m3
  have hz4 := hg4.size
  have hgw4 : w.grownBy w4 (some p) := grownBy_trans hgw3 hg4
  have hA4 := hA3.frame (w' := w4) (fun g h1 h2 => hg4.block g h2 (by simp; omega)) hg4.size
  have hzT : w2.heap.size < w4.heap.size := by omega
  have hzR : w.heap.size < w4.heap.size := by omega
  obtain ⟨T, hT⟩ : ∃ T, w2.heap.size = T := ⟨_, rfl⟩
  rw [hT] at n4 hzT ⊢
  have hTR : w.heap.size < T := by omega
  obtain ⟨x0, x1, x2, x3, y0, y1, y2, y3⟩ := four_cells n4
  obtain ⟨r0, r1, r2, r3, v0, v1, v2, v3⟩ := four_cells m4
  cases b
  · have HF : Hid (∀ Z, Turned w.heap.size w4 Z → BPost p a len cap w Z t.K t.N t.S (.slice av l cv)) := fun Z hZ =>
      ⟨((hA4.frame (fun g h1 h2 => hZ.block g h2 (by omega)) hZ.size).low (by omega)).up (by omega), hc4.same (hZ.block p hc4.lt (by omega)), ⟨hZ.os.trans hgw4.os, hZ.tape.trans hgw4.tape, hZ.output.trans hgw4.output, Nat.le_trans hgw4.size hZ.size, fun g hg hn => (hZ.block g (Nat.lt_of_lt_of_le hg hgw4.size) (by omega)).trans (hgw4.block g hg hn)⟩⟩
    clear hc4 hg4 hA4 n4 m4 hA3 n3 m3 hgw3 hgw4 hc3 hr3
    go_wp2_with fail
    refine bodyPost_ret (v := .agg #[.int .i64 t.K, .int .i64 t.N, .string t.S, .slice av l cv]) (by first | (simp [results, Try.results68, go_sem, r0, r1, r2, r3]; done) | (simp [results, Try.results68, go_sem, r0, r1, r2, r3]; rfl)) rfl ⟨t.K, t.N, t.S, _, _, _, rfl, HF.out _ ?_⟩
    repeat (first | exact Turned.refl _ _ | refine Turned.trans ?_ (Turned.of_set _ _ _ _))
  · have hrdx : RdL 3 w4 (.slice av l cv) t.L := (HOW.out.1.frame fun g hg => hg4.block g (HOW.out.2 g hg).2 (by have := (HOW.out.2 g hg).1; simp; omega)).rd
    have hB := l2Bend_any p len cap a zs t (.slice av l cv) w4 hc4 (hr.grown hgw4 HNE.out) HNE.out hmx hrdx HT.out.2 HT.out.1
    have HN : Hid (w4.heap[T]? = some (.cells #[.int .i64 t.K, .int .i64 t.N, .string t.S, .slice av l cv] 26 (0, 0)) ∧ w4.heap[w.heap.size]? = some (.cells #[.int .i64 0, .int .i64 0, .string ⟨#[]⟩, .slice none 0 0] 26 (0, 0))) := ⟨n4, m4⟩
    have HGW : Hid (w.grownBy w4 (some p)) := hgw4
    clear hc4 hg4 hA4 n4 m4 hA3 n3 m3 hgw3 hgw4 hc3 hr3 hrdx
    go_wp2_with fail
    refine hB.mono ?_
    clear hB
    rintro e w5 ⟨k, n, s, av5, lv5, cv5, rfl, HP5⟩
    obtain ⟨hA5, hc5, hg5⟩ := HP5.out
    have n5 := (hg5.block _ hzT (by simp; omega)).trans HN.out.1
    have m5 := (hg5.block _ hzR (by simp; omega)).trans HN.out.2
    have hz5 := hg5.size
    have hzT5 : T < w5.heap.size := by omega
    have hzR5 : w.heap.size < w5.heap.size := by omega
    have hgw5 : w.grownBy w5 (some p) := grownBy_trans HGW.out hg5
    have HF : Hid (∀ Y Z, Turned T w5 Y → Turned w.heap.size Y Z → BPost p a len cap w Z k n s (.slice av5 lv5 cv5)) := fun Y Z hY hZ => by
      have hYz := hY.size
      have hbl : ∀ g, g < w5.heap.size → g ≠ T → g ≠ w.heap.size → Z.heap[g]? = w5.heap[g]? := fun g h1 h2 h3 => (hZ.block g (by omega) h3).trans (hY.block g h1 h2)
      exact ⟨(hA5.frame (fun g h1 h2 => hbl g h2 (by omega) (by omega)) (Nat.le_trans hYz hZ.size)).low (by omega), hc5.same (hbl p hc5.lt (by omega) (by omega)), ⟨hZ.os.trans (hY.os.trans hgw5.os), hZ.tape.trans (hY.tape.trans hgw5.tape), hZ.output.trans (hY.output.trans hgw5.output), Nat.le_trans hgw5.size (Nat.le_trans hYz hZ.size), fun g hg hn => (hbl g (Nat.lt_of_lt_of_le hg hgw5.size) (by omega) (by omega)).trans (hgw5.block g hg hn)⟩⟩
    clear x0 x1 x2 x3 y0 y1 y2 y3 r0 r1 r2 r3 v0 v1 v2 v3
    obtain ⟨x0, x1, x2, x3, y0, y1, y2, y3⟩ := four_cells n5
    obtain ⟨r0, r1, r2, r3, v0, v1, v2, v3⟩ := four_cells m5
    clear hA5 hc5 hg5 n5 m5 hgw5 HP5 HN HGW
    go_wp2_with fail
    refine bodyPost_ret (v := .agg #[.int .i64 k, .int .i64 n, .string s, .slice av5 lv5 cv5]) (by first | (simp [results, Try.results68, go_sem, r0, r1, r2, r3]; done) | (simp [results, Try.results68, go_sem, r0, r1, r2, r3]; rfl)) rfl ⟨k, n, s, _, _, _, rfl, ?_⟩
    exact HF.out _ _ ((((Turned.of_set _ _ _ _).trans (Turned.of_set _ _ _ _)).trans (Turned.of_set _ _ _ _)).trans (Turned.of_set _ _ _ _)) ((((Turned.of_set _ _ _ _).trans (Turned.of_set _ _ _ _)).trans (Turned.of_set _ _ _ _)).trans (Turned.of_set _ _ _ _))

/-- A leaf of a list. -/
def leaf1 : Tm 1 := mkT 1 0 ⟨#[]⟩ ([] : List (Tm 0))

/-- Where a draw of a long list stands. -/
structure LMid (w wr : World) (T j : Nat) (a : Option Addr) (len cap : Nat) (v : Value) : Prop where
  res : wr.heap[w.heap.size]? = some (.cells #[.int .i64 0, .int .i64 0, .string ⟨#[]⟩, .slice none 0 0] 26 (0, 0))
  box : wr.heap[T]? = some (.cells #[.int .i64 5, .int .i64 0, .string ⟨#[]⟩, v] 26 (0, 0))
  cur : Cur wr (w.heap.size + 1) a len cap
  bel : Below w.heap.size w wr
  made : ∃ fp, Made 1 (T + 1) wr v (List.replicate j leaf1) fp

theorem LMid.later {w wr V : World} {T j len cap : Nat} {a : Option Addr} {v : Value} (h : LMid w wr T j a len cap v) (hT : w.heap.size + 1 < T) (hg : wr.grownBy V (some (w.heap.size + 1))) (hc : Cur V (w.heap.size + 1) a len cap) : LMid w V T j a len cap v := by
  obtain ⟨fp, hM⟩ := h.made
  have z := lt_of_row' h.box
  refine ⟨(hg.block _ (by omega) (by simp)).trans h.res, (hg.block _ z (by simp; omega)).trans h.box, hc, h.bel.trans (grown_below hg (by omega) h.bel.size), fp, hM.frame (fun g hg' => ?_) hg.size⟩
  obtain ⟨_, _, _, _, _, h4, _⟩ := hM
  exact hg.block g (h4.2 g hg').2 (by have := (h4.2 g hg').1; simp; omega)

theorem LMid.step {w wr w2 : World} {T j len cap : Nat} {a av av2 : Option Addr} {lv cv lv2 cv2 : Nat} {cs : List Value} (h : LMid w wr T j a len cap (.slice av lv cv)) (hT : w.heap.size + 1 < T) (hj : j ≤ 100) (hrow : wr.ownsRow (T + 1) 26 4 (.slice av lv cv) j cs)
    (hown : w2.ownsRow (T + 1) 26 4 (.slice av2 lv2 cv2) (j + 1) (cs ++ [.int .i64 1, .int .i64 0, .string ⟨#[]⟩, .slice none 0 0])) (hgr : (wr.alloc (.cells #[.int .i64 1, .int .i64 0, .string ⟨#[]⟩, .slice none 0 0] 26)).grownBy w2 (Value.slice av lv cv).ownBlock)
    (hat : (Value.slice av2 lv2 cv2).ownBlock = (Value.slice av lv cv).ownBlock ∨ (Value.slice av2 lv2 cv2).ownBlock = some (wr.alloc (.cells #[.int .i64 1, .int .i64 0, .string ⟨#[]⟩, .slice none 0 0] 26)).heap.size) :
    w2.heap[T]? = some (.cells #[.int .i64 5, .int .i64 0, .string ⟨#[]⟩, .slice av lv cv] 26 (0, 0)) ∧ LMid w (w2.setCell ⟨T, 3, none⟩ (.slice av2 lv2 cv2)) T (j + 1) a len cap (.slice av2 lv2 cv2) := by
  obtain ⟨fp, hM⟩ := h.made
  have z := lt_of_row' h.box
  obtain ⟨V, hV⟩ : ∃ V, V = wr.alloc (.cells #[.int .i64 1, .int .i64 0, .string ⟨#[]⟩, .slice none 0 0] 26) := ⟨_, rfl⟩
  have hb : Below wr.heap.size wr V := by rw [hV]; exact (Below.refl _ _).alloc (Nat.le_refl _) _
  rw [← hV] at hgr hat
  have hz2 := hb.size
  have hz3 := hgr.size
  have hob : ∀ g, (Value.slice av lv cv).ownBlock = some g → T + 1 ≤ g := fun g hg => by
    rcases hrow.2 with ⟨e, _⟩ | ⟨g', c', cur, e1, e2, e3, _⟩
    · rw [e] at hg; cases hg
    · rw [e1] at hg
      obtain rfl : g' = g := by simpa [Value.ownBlock] using hg
      exact e2
  have hk : ∀ g, g < T + 1 → w2.heap[g]? = wr.heap[g]? := fun g hg => (hgr.block g (by omega) (fun e => by have := hob g e.symm; omega)).trans (hb.block g (by omega))
  obtain ⟨cs', fps, r1, r2, r3, r4, r5, r6⟩ := hM
  rw [List.length_replicate] at r1 r2
  obtain rfl := row_cs r1 hrow
  subst r3
  have hkp : ∀ g ∈ (Value.slice av lv cv).ownBlock.toList ++ fps.flatten, V.heap[g]? = wr.heap[g]? := fun g hg => hb.block g (r4.2 g hg).2
  have hlr : (List.replicate j leaf1).length = j := List.length_replicate
  obtain ⟨fp', hm, _⟩ := made_step (w := V) (t := leaf1) (f := []) (lv := .slice none 0 0) (ts := List.replicate j leaf1) (by rw [hlr]; exact rowKept r1 fun g hg => hkp g (List.mem_append_left _ (by rw [hg]; exact List.mem_singleton.2 rfl))) (by rw [hlr]; exact r2) ⟨r4.1, fun g hg => ⟨(r4.2 g hg).1, Nat.lt_of_lt_of_le (r4.2 g hg).2 hz2⟩⟩ r5 (r6.frame fun g hg => hkp g (List.mem_append_right _ hg))
    (ownL_nil 0 V) ⟨List.nodup_nil, fun g hg => by cases hg⟩ (fun g hg => by cases hg) ⟨⟨by show _ ≤ (1 : Int); omega, by show (1 : Int) ≤ _; omega⟩, ⟨by show _ ≤ (0 : Int); omega, by show (0 : Int) ≤ _; omega⟩, Nat.zero_le _, wfL_nil 0⟩ (by rw [hlr]; omega) (by omega) (by rw [hlr]; exact hown) hgr hat
  have hkT := (hk T (by omega)).trans h.box
  have hbel : Below w.heap.size w w2 := ⟨hgr.os.trans (hb.os.trans h.bel.os), hgr.tape.trans (hb.tape.trans h.bel.tape), hgr.output.trans (hb.output.trans h.bel.output), by have := h.bel.size; omega, fun g hg => (hk g (by omega)).trans (h.bel.block g hg)⟩
  refine ⟨hkT, ?_, heap_setCell_same w2 _ 3 _ _ _ hkT, cur_set (h.cur.same (hk _ (by omega))) (by omega), hbel.trans ((Turned.of_set w2 T 3 _).below (by omega) hbel.size), fp', ?_⟩
  · exact (heap_setCell_other _ _ _ _ (by show w.heap.size ≠ T; omega)).trans ((hk _ (by omega)).trans h.res)
  · rw [List.replicate_succ', ]
    refine hm.frame (fun g hg => ?_) (by simp)
    obtain ⟨_, _, _, _, _, h4, _⟩ := hm
    exact heap_setCell_other _ _ _ _ (by have := (h4.2 g hg).1; show g ≠ T; omega)

theorem cnt_leaves (j : Nat) : cntL 1 (List.replicate j leaf1) = j := by
  induction j with
  | zero => rfl
  | succ j ih =>
    rw [List.replicate_succ, cntL_cons, ih]
    show 1 + 0 + j = j + 1
    omega

theorem LMid.fin {w wr Z : World} {T j len cap : Nat} {a : Option Addr} {v : Value} (h : LMid w wr T j a len cap v) (hT : w.heap.size + 1 < T) (hj : j ≤ 100) (hZ : Turned w.heap.size wr Z) : AnyT Z w.heap.size 5 0 ⟨#[]⟩ v 200 ∧ Below w.heap.size w Z := by
  obtain ⟨fp, hM⟩ := h.made
  obtain ⟨a', l', c', f3, e3, q1, q2, q3⟩ := hM.own
  refine ⟨⟨1, _, f3, q1.frame fun g hg => hZ.block g (q2.2 g hg).2 (by have := (q2.2 g hg).1; omega), fun g hg => ⟨by have := (q2.2 g hg).1; omega, Nat.lt_of_lt_of_le (q2.2 g hg).2 hZ.size⟩, q3, ⟨by omega, by omega⟩, ⟨by omega, by omega⟩, Nat.zero_le _, by rw [cnt_leaves]; omega⟩, h.bel.trans (hZ.below (Nat.le_refl _) h.bel.size)⟩

end Go.Proofs.Ythjmbbpakidkdaa
