/- What a draw of bytes for a term comes to: at most 19201 bytes, in new memory. -/
import Derived.Test.YthjmbbpakidkdaaDrTm2
import Derived.Test.YthjmbbpakidkdaaCanon
import Derived.Test.YthjmbbpakidkdaaPutM
import Derived.Test.YthjmbbpakidkdaaIGet2M
import Derived.Deep.RegionWith
namespace Go.Proofs.Ythjmbbpakidkdaa
open Go.RowKit
set_option linter.unusedVariables false

theorem sm_ok : ∀ (d : Nat) (ts : List (Tm d)), (∀ u ∈ ts, SmT d u) → OkL d ts := by
  intro d
  induction d with
  | zero => intro ts h; trivial
  | succ d ih =>
    intro ts h t ht
    obtain ⟨h1, h2, h3, h4⟩ := h t ht
    exact ⟨h1, ih t.L h4⟩

theorem dep_le : ∀ (d : Nat) (ts : List (Tm d)), depL d ts ≤ d := by
  intro d
  induction d with
  | zero => intro ts; exact Nat.le_refl _
  | succ d ih =>
    intro ts
    refine foldl_max_le _ 0 _ (Nat.zero_le _) fun x hx => ?_
    obtain ⟨t, ht, rfl⟩ := List.mem_map.1 hx
    have := ih t.L
    omega

theorem sm_cnt : ∀ (d : Nat) (ts : List (Tm d)), (∀ u ∈ ts, SmT d u) → ts.length ≤ 3 → cntL d ts + 1 ≤ 4 ^ d := by
  intro d
  induction d with
  | zero => intro ts h _; exact Nat.le_refl _
  | succ d ih =>
    intro ts h hl
    have hb : ∀ (l : List (Tm (d + 1))), (∀ u ∈ l, SmT (d + 1) u) → cntL (d + 1) l ≤ l.length * 4 ^ d := by
      intro l hh
      induction l with
      | nil => exact Nat.zero_le _
      | cons t r ih2 =>
        obtain ⟨h1, h2, h3, h4⟩ := hh t (List.mem_cons_self ..)
        have g1 := ih t.L h4 h3
        have g2 := ih2 fun u hu => hh u (List.mem_cons_of_mem _ hu)
        show (1 + cntL d t.L) + cntL (d + 1) r ≤ (r.length + 1) * 4 ^ d
        rw [Nat.add_mul]
        omega
    have h1 := hb ts h
    have h2 : ts.length * 4 ^ d ≤ 3 * 4 ^ d := Nat.mul_le_mul_right _ hl
    have h3 : 1 ≤ 4 ^ d := Nat.pow_pos (by decide)
    rw [Nat.pow_succ]
    omega

theorem sm_right {t : Tm 4} (h : SmT 4 t) : Right 3 t.K t.N t.S t.L 8 300 := by
  obtain ⟨h1, h2, h3, h4⟩ := h
  have c := sm_cnt 3 t.L h4 h3
  have e := dep_le 3 t.L
  have p : (4 : Nat) ^ 3 = 64 := by decide
  exact ⟨h1, sm_ok 3 t.L h4, by omega, by omega⟩

theorem encL_byte : ∀ (d : Nat) (ts : List (Tm d)), ∀ x ∈ encL d ts, 0 ≤ x ∧ x ≤ 255 := by
  intro d
  induction d with
  | zero => intro ts x hx; cases hx
  | succ d ih =>
    intro ts x hx
    obtain ⟨t, _, ht⟩ := List.mem_flatMap.1 hx
    refine mem_app (enc_byte _ (code_bd _).1) ?_ x ht
    unfold bodyE
    split
    · exact enc_byte _ (code_bd _).1
    · split
      · exact mem_app (enc_byte _ (code_bd _).1) (nums_byte _)
      · exact mem_app (enc_byte _ (code_bd _).1) (ih _)

theorem encT_byte (d : Nat) (k n : Int) (s : ByteArray) (ts : List (Tm d)) : ∀ x ∈ encT d k n s ts, 0 ≤ x ∧ x ≤ 255 := by
  refine mem_app (enc_byte _ (code_bd _).1) ?_
  unfold bodyE
  split
  · exact enc_byte _ (code_bd _).1
  · split
    · exact mem_app (enc_byte _ (code_bd _).1) (nums_byte _)
    · exact mem_app (enc_byte _ (code_bd _).1) (encL_byte d ts)

theorem encT_pos (d : Nat) (k n : Int) (s : ByteArray) (ts : List (Tm d)) : 0 < (encT d k n s ts).length := by
  unfold encT
  rw [List.length_append]
  have := enc_len_pos (code k)
  omega

/-- What a draw of bytes hands on. -/
def GDraw (w w' : World) (g n c : Nat) (ys : List Int) : Prop := Bts n c ys ∧ g < w'.heap.size ∧ (∀ i, i < n → w'.cell? ⟨g, 0 + i, none⟩ = some (.int .u8 (ys.getD i 0))) ∧ Below w.heap.size w w'

theorem row_at {w : World} {B g n c : Nat} {ys : List Int} (h : w.ownsRow B 5 1 (.slice (some ⟨g, 0, none⟩) n c) n (ys.map (Value.int .u8))) (i : Nat) (hi : i < n) : w.cell? ⟨g, i, none⟩ = some (.int .u8 (ys.getD i 0)) ∧ w.frozen? ⟨g, i, none⟩ = false := by
  have hl := h.1
  rw [List.length_map] at hl
  rcases h.2 with ⟨e, _⟩ | ⟨g', c', cur, e1, e2, e3, e4, e5, e6, e7⟩
  · simp at e
  · simp only [Value.slice.injEq, Option.some.injEq, Addr.mk.injEq, and_true, true_and] at e1
    obtain ⟨rfl, rfl⟩ := e1
    refine ⟨?_, frozen_of_row w _ _ _ _ e3⟩
    rw [cell_of_row w _ _ _ _ _ e3]
    have h1 : (cur.toList.take (n * 1))[i]? = some (.int .u8 (ys.getD i 0)) := by
      rw [e7, List.getElem?_map, List.getD_eq_getElem?_getD, List.getElem?_eq_getElem (by omega)]
      rfl
    rw [List.getElem?_take_of_lt (by omega)] at h1
    simpa using h1

theorem gd_of_row {w w' : World} {B g n c : Nat} {ys : List Int} (h : w'.ownsRow B 5 1 (.slice (some ⟨g, 0, none⟩) n c) n (ys.map (Value.int .u8))) (hy : ∀ x ∈ ys, 0 ≤ x ∧ x ≤ 255) (hn : n ≤ 1048576) (hb : Below w.heap.size w w') : GDraw w w' g n c ys := by
  have hl := h.1
  rw [List.length_map] at hl
  refine ⟨⟨by omega, hn, ?_, ?_, range_of_mem hy⟩, ?_, fun i hi => by rw [Nat.zero_add]; exact (row_at h i hi).1, hb⟩
  all_goals
    rcases h.2 with ⟨e, _⟩ | ⟨g', c', cur, e1, e2, e3, e4, e5, e6, e7⟩
    · simp at e
    · simp only [Value.slice.injEq, Option.some.injEq, Addr.mk.injEq, and_true, true_and] at e1
      obtain ⟨rfl, rfl⟩ := e1
      first | exact e4 | (unfold maxLen at e5; omega) | exact lt_of_row' e3

/-- A byte of a row is turned. -/
theorem gd_set {w w' : World} {B g n c j : Nat} {ys : List Int} {x : Int} (h : w'.ownsRow B 5 1 (.slice (some ⟨g, 0, none⟩) n c) n (ys.map (Value.int .u8))) (hy : ∀ x ∈ ys, 0 ≤ x ∧ x ≤ 255) (hx : 0 ≤ x ∧ x ≤ 255) (hn : n ≤ 1048576) (hb : Below w.heap.size w w') (hg : w.heap.size ≤ g) : GDraw w (w'.setCell ⟨g, j, none⟩ (.int .u8 x)) g n c (ys.set j x) := by
  obtain ⟨h1, h2, h3, h4⟩ := gd_of_row h hy hn hb
  have hs : ∀ u ∈ ys.set j x, 0 ≤ u ∧ u ≤ 255 := fun u hu => by
    rcases List.mem_or_eq_of_mem_set hu with hu | rfl
    · exact hy u hu
    · exact hx
  refine ⟨⟨by rw [List.length_set]; exact h1.len, h1.le, h1.cap1, h1.cap2, range_of_mem hs⟩, by simp; exact h2, fun i hi => ?_, h4.trans ((Turned.of_set w' g j _).below hg h4.size)⟩
  rcases h.2 with ⟨e, _⟩ | ⟨g', c', cur, e1, e2, e3, e4, e5, e6, e7⟩
  · simp at e
  · simp only [Value.slice.injEq, Option.some.injEq, Addr.mk.injEq, and_true, true_and] at e1
    obtain ⟨rfl, rfl⟩ := e1
    rw [cell_of_row _ _ _ _ _ _ (heap_setCell_same w' g j _ _ (.int .u8 x) e3), Nat.zero_add]
    have hi2 := (row_at h i hi).1
    rw [cell_of_row w' _ _ _ _ _ e3] at hi2
    have hl := h1.len
    by_cases he : j = i
    · subst he
      rw [Array.getElem?_setIfInBounds_self_of_lt (by omega), List.getD_eq_getElem?_getD, List.getElem?_set_self (by omega)]
      rfl
    · rw [Array.getElem?_setIfInBounds_ne he, hi2, List.getD_eq_getElem?_getD, List.getD_eq_getElem?_getD, List.getElem?_set_ne he]

set_option maxRecDepth 100000 in
set_option maxHeartbeats 2000000 in
theorem drawGetTerm_any (a : Option Addr) (len cap : Nat) (zs : List Int) (w : World) (hr : IsRow .u8 w a len cap zs) (hm : len ≤ 1048576) :
    Calls Try.prog 25 #[.slice a len cap] w fun e w' => ∃ (g n c : Nat) (ys : List Int), e = .returned (.slice (some ⟨g, 0, none⟩) n c) ∧ Hid (GDraw w w' g n c ys) := by
  have hne : ∀ x, a = some x → 0 < cap → x.block ≠ w.heap.size := isRow_old hr
  have HNE : Hid (∀ x, a = some x → 0 < cap → x.block ≠ w.heap.size) := hne
  have hN := l1New_any a len cap zs w hr (by omega)
  clear hne
  go_enter Try.func25, Try.ntmps25
  go_wp2_with fail
  refine hN.mono ?_
  clear hN
  rintro e w1 ⟨rfl, hc1, hb1⟩
  have hr1 := hr.later hb1
  have hD := l2Draw_any 3 (by omega) w.heap.size len cap a zs w1 hc1 hr1 HNE.out (by omega)
  rw [show ((3 : Nat) : Int) = 3 from rfl] at hD
  go_wp2_with fail
  refine hD.mono ?_
  clear hD
  rintro e w2 ⟨k, x, s, av, l, cv, rfl, HP⟩
  obtain ⟨hc2, hg2, t, fp, hown, hfr, hwf, hsm⟩ := HP.out
  have hb2 : Below w.heap.size w w2 := hb1.trans (grown_below hg2 (Nat.le_refl _) hb1.size)
  have hr2 := hr1.grown hg2 HNE.out
  obtain ⟨a', l', c', ev, hown⟩ := hown
  simp only [Value.agg.injEq] at ev
  have ev2 : ([.int .i64 k, .int .i64 x, .string s, .slice av l cv] : List Value) = [.int .i64 t.K, .int .i64 t.N, .string t.S, .slice a' l' c'] := by simpa using congrArg Array.toList ev
  simp only [List.cons.injEq, Value.int.injEq, Value.string.injEq, Value.slice.injEq, true_and, and_true] at ev2
  obtain ⟨rfl, rfl, rfl, rfl, rfl, rfl⟩ := ev2
  have hP := specPutTerm_any 3 t.K t.N t.S _ t.L w2 hown.rd hwf.2.2.2 hwf.1 hwf.2.1 (Nat.le_trans hwf.2.2.1 (by decide))
  go_wp2_with fail
  refine hP.mono ?_
  clear hP
  rintro e w3 ⟨g, c, xs, rfl, hxs, hrow, hb3⟩
  have hxs : xs = encT 3 t.K t.N t.S t.L := by
    rcases hxs with h | h
    · exact h.2
    · exact absurd (sm_right hsm) h.1
  have hpos : 0 < xs.length := by rw [hxs]; exact encT_pos _ _ _ _ _
  have hle : xs.length ≤ 19200 := by rw [hxs]; exact right_len (sm_right hsm)
  have HBY : Hid (∀ x ∈ xs, 0 ≤ x ∧ x ≤ 255) := by rw [hxs]; exact encT_byte _ _ _ _ _
  have hp2 := hc2.lt
  have hc3 : Cur w3 w.heap.size a len cap := hc2.same (hb3.block _ hp2)
  have hr3 := hr2.later hb3
  have hbw3 : Below w.heap.size w w3 := hb2.trans (hb3.mono hb2.size)
  clear hxs hown hfr hwf hsm HP hc1 hr1 hb1 hg2 hr
  obtain ⟨n, hn⟩ : ∃ n, xs.length = n := ⟨_, rfl⟩
  have HLN : Hid (xs.length = n) := hn
  rw [hn] at hrow hpos hle ⊢
  have hg0 : w2.heap.size ≤ g ∧ g < w3.heap.size ∧ n ≤ c ∧ c ≤ maxLen := by
    rcases hrow.2 with ⟨e, _⟩ | ⟨g', c', cur, e1, e2, e3, e4, e5, _⟩
    · simp at e
    · simp only [Value.slice.injEq, Option.some.injEq, Addr.mk.injEq, and_true, true_and] at e1
      obtain ⟨rfl, rfl⟩ := e1
      exact ⟨e2, lt_of_row' e3, e4, e5⟩
  obtain ⟨hg1, hg2, hg3, hg4⟩ := hg0
  have HROW : Hid (w3.ownsRow w2.heap.size 5 1 (.slice (some ⟨g, 0, none⟩) n c) n (xs.map (Value.int .u8))) := hrow
  have hgp : w.heap.size < g := by omega
  have hB5 := l1Below_any w.heap.size len cap a zs 5 w3 hc3 hr3 HNE.out (by omega) (by omega) (by omega)
  clear hn hrow hc2 hr2
  go_wp2_with fail
  refine hB5.mono ?_
  clear hB5
  rintro e w4 ⟨y, hy0, hy1, rfl, hc4, hg4'⟩
  have hr4 := hr3.grown hg4' HNE.out
  have hbw4 : Below w.heap.size w w4 := hbw3.trans (grown_below hg4' (Nat.le_refl _) hbw3.size)
  have HR4 : Hid (w4.ownsRow w2.heap.size 5 1 (.slice (some ⟨g, 0, none⟩) n c) n (xs.map (Value.int .u8))) := rowKept HROW.out fun j hj => by
    obtain rfl : g = j := by simpa [Value.ownBlock] using hj
    exact hg4'.block g hg2 (by simp; omega)
  have hz4 : g < w4.heap.size := Nat.lt_of_lt_of_le hg2 hg4'.size
  clear hc3 hr3 hg4' HROW hbw3 hb3 hb2
  rcases (by omega : y = 0 ∨ y = 1 ∨ y = 2 ∨ y = 3 ∨ y = 4) with rfl | rfl | rfl | rfl | rfl
  · have hB := l1Below_any w.heap.size len cap a zs n w4 hc4 hr4 HNE.out (by omega) (by omega) (by omega)
    go_wp2_with fail
    refine hB.mono ?_
    clear hB
    rintro e w5 ⟨i, hi0, hi1, rfl, hc5, hg5⟩
    obtain ⟨j, rfl⟩ := Int.eq_ofNat_of_zero_le hi0
    have hj : j < n := by omega
    have hr5 := hr4.grown hg5 HNE.out
    have hbw5 : Below w.heap.size w w5 := hbw4.trans (grown_below hg5 (Nat.le_refl _) hbw4.size)
    have HR5 : Hid (w5.ownsRow w2.heap.size 5 1 (.slice (some ⟨g, 0, none⟩) n c) n (xs.map (Value.int .u8))) := rowKept HR4.out fun j hj => by
      obtain rfl : g = j := by simpa [Value.ownBlock] using hj
      exact hg5.block g hz4 (by simp; omega)
    have hz5 : g < w5.heap.size := Nat.lt_of_lt_of_le hz4 hg5.size
    have hp5 := hc5.lt
    clear hc4 hr4 hg5 hbw4 HR4
    go_wp2_with fail
    refine (l1Int_any w.heap.size len cap a zs w5.heap.size 0 6 6 [0, 2, 4, 8, 10, 128] _ (hc5.same (Below.heap_alloc w5 _ _ hp5)) (hr5.grown (World.grownBy_alloc w5 _ (some w.heap.size)) HNE.out) HNE.out (by omega) (by omega) rfl (by omega) (by omega) (list_cells w5 [0, 2, 4, 8, 10, 128] _ 3 rfl)).mono ?_
    rintro e w6 ⟨x, hx, rfl, hc6, hg6⟩
    have hx2 : 0 ≤ x ∧ x ≤ 255 := by
      simp only [List.mem_cons, List.not_mem_nil, or_false] at hx
      omega
    have hbw6 : Below w.heap.size w w6 := (hbw5.trans (grown_below (World.grownBy_alloc w5 _ (some w.heap.size)) (Nat.le_refl _) hbw5.size)).trans (grown_below hg6 (Nat.le_refl _) (by simp; omega))
    have HR6 : Hid (w6.ownsRow w2.heap.size 5 1 (.slice (some ⟨g, 0, none⟩) n c) n (xs.map (Value.int .u8))) := rowKept HR5.out fun j hj => by
      obtain rfl : g = j := by simpa [Value.ownBlock] using hj
      exact (hg6.block g (by simp; omega) (by simp; omega)).trans (Below.heap_alloc w5 _ g hz5)
    obtain ⟨q1, q2⟩ := row_at HR6.out j hj
    have HF : Hid (GDraw w (w6.setCell ⟨g, j, none⟩ (.int .u8 x)) g n c (xs.set j x)) := gd_set HR6.out HBY.out hx2 (by omega) hbw6 (by omega)
    obtain ⟨hx0, hx255⟩ := hx2
    have hw : IntKind.u8.wrap x = x := by rw [IntKind.wrap_u8]; omega
    have hji : (j : Int) < (n : Int) := by omega
    clear hx hg6 hc6 HR6 HR5 hr5 hc5 hbw5 hbw6
    go_wp2_with fail
    go_ret
    exact ⟨g, n, c, _, rfl, HF⟩
  · have hB := l1Below_any w.heap.size len cap a zs n w4 hc4 hr4 HNE.out (by omega) (by omega) (by omega)
    go_wp2_with fail
    refine hB.mono ?_
    clear hB
    rintro e w5 ⟨i, hi0, hi1, rfl, hc5, hg5⟩
    obtain ⟨j, rfl⟩ := Int.eq_ofNat_of_zero_le hi0
    have hj : j < n := by omega
    have hbw5 : Below w.heap.size w w5 := hbw4.trans (grown_below hg5 (Nat.le_refl _) hbw4.size)
    have HR5 : Hid (w5.ownsRow w2.heap.size 5 1 (.slice (some ⟨g, 0, none⟩) n c) n (xs.map (Value.int .u8))) := rowKept HR4.out fun j hj => by
      obtain rfl : g = j := by simpa [Value.ownBlock] using hj
      exact hg5.block g hz4 (by simp; omega)
    have HF : Hid (GDraw w w5 g j c (xs.take j)) := by
      obtain ⟨h1, h2, h3, h4⟩ := gd_of_row HR5.out HBY.out (by omega) hbw5
      refine ⟨⟨by rw [List.length_take, h1.len]; omega, by omega, by omega, h1.cap2, range_of_mem fun x hx => HBY.out x (List.mem_of_mem_take hx)⟩, h2, fun i hi => ?_, h4⟩
      rw [h3 i (by omega), List.getD_eq_getElem?_getD, List.getD_eq_getElem?_getD, List.getElem?_take_of_lt hi]
    have hjc : (j : Int) ≤ (c : Int) := by omega
    clear hc4 hr4 hg5 hbw4 HR4 hc5 HR5 hbw5
    go_wp2_with fail
    go_ret
    exact ⟨g, j, c, _, rfl, HF⟩
  · obtain ⟨i0, hi, hz0, hz1, hz2⟩ := info_parts Try.info5
    go_wp2_with (first | (at_builtin; refine wpList_append_own_at _ rfl _ _ 22 rfl w2.heap.size 5 i0 (.int .u8 0) 1 1 Try.underlying22 hi hz0 hz1 hz2 rfl (by decide) _ _ _ rfl (HR4.out.alloc _) ⟨w4.heap.size, 0, none⟩ 1 1 [.int .u8 0] rfl rfl (cell_one_new _ _ _) (by intro u hu; simp at hu; subst hu; rfl) (by unfold maxLen; omega) (by omega) (by simp; omega) ?_; intro v' w5 hown5 hgrow5 hnil5 hat5) | go_in)
    have HF : Hid (∃ g5 c5, v' = .slice (some ⟨g5, 0, none⟩) (n + 1) c5 ∧ GDraw w w5 g5 (n + 1) c5 (xs ++ [0])) := by
      rcases hown5.2 with ⟨e, h0⟩ | ⟨g', c', cur, e1, _⟩
      · omega
      · subst e1
        have hbw5 : Below w.heap.size w w5 := hbw4.trans (((Below.refl w.heap.size w4).alloc hbw4.size _).grown hgrow5 (by simp; omega) (fun k hk => by have hk' : some g = some k := hk; cases hk'; omega))
        refine ⟨g', c', rfl, gd_of_row (B := w2.heap.size) (by simpa using hown5) (mem_app HBY.out fun x hx => by simp at hx; omega) (by omega) hbw5⟩
    obtain ⟨g5, c5, rfl, hF⟩ := HF.out
    have HF2 : Hid (GDraw w w5 g5 (n + 1) c5 (xs ++ [0])) := hF
    clear HF hF hown5 hgrow5 hnil5 hat5
    go_wp2_with fail
    go_ret
    exact ⟨g5, n + 1, c5, _, rfl, HF2⟩
  · have HF : Hid (GDraw w w4 g n c xs) := gd_of_row HR4.out HBY.out (by omega) hbw4
    go_wp2_with fail
    go_ret
    exact ⟨g, n, c, xs, rfl, HF⟩
  · have HF : Hid (GDraw w w4 g n c xs) := gd_of_row HR4.out HBY.out (by omega) hbw4
    go_wp2_with fail
    go_ret
    exact ⟨g, n, c, xs, rfl, HF⟩

end Go.Proofs.Ythjmbbpakidkdaa

/- What the law on terms that are read holds in hand: two rows of the same bytes, and the zero term. -/
namespace Go.Proofs.Ythjmbbpakidkdaa
open Go.RowKit
set_option linter.unusedVariables false

set_option maxHeartbeats 1000000 in
theorem sameBytes_yes (g1 g2 n c1 c2 : Nat) (ys : List Int) (w : World) (hn : n ≤ 1048576) (h1 : ∀ i, i < n → w.cell? ⟨g1, i, none⟩ = some (.int .u8 (ys.getD i 0))) (h2 : ∀ i, i < n → w.cell? ⟨g2, i, none⟩ = some (.int .u8 (ys.getD i 0))) :
    Calls Try.prog 28 #[.slice (some ⟨g1, 0, none⟩) n c1, .slice (some ⟨g2, 0, none⟩) n c2] w fun e w' => e = .returned (.bool true) ∧ Below w.heap.size w w' := by
  have H1 : Hid (∀ i, i < n → w.cell? ⟨g1, i, none⟩ = some (.int .u8 (ys.getD i 0))) := h1
  have H2 : Hid (∀ i, i < n → w.cell? ⟨g2, i, none⟩ = some (.int .u8 (ys.getD i 0))) := h2
  clear h1 h2
  go_enter Try.func28, Try.ntmps28
  go_wp2_with fail
  go_loopw [5] (fun i wr => ∃ k : Nat, k ≤ n ∧ i = .int .i64 k ∧ Below w.heap.size w wr) (fun i _ => n - (intOf i).toNat)
  case atStart => exact ⟨0, Nat.zero_le _, rfl, Below.refl _ _⟩
  case round =>
    obtain ⟨k, hk, rfl, hb⟩ := hrel
    by_cases hkl : k < n
    · have hkl' : (k : Int) < (n : Int) := by omega
      obtain ⟨x, hx⟩ : ∃ x, ys.getD k 0 = x := ⟨_, rfl⟩
      have f1 := cell_later hb (H1.out k hkl)
      have f2 := cell_later hb (H2.out k hkl)
      rw [hx] at f1 f2
      clear hx
      go_wp2_with fail
      go_region_with (fail)
      all_goals
        go_wp2_with fail
        go_roundw
        case rel => exact ⟨k + 1, by omega, by go_num, by first | exact hb.drew | exact hb⟩
        case measure => simp [intOf]; omega
    · obtain rfl : k = n := by omega
      go_wp2_with fail
      go_ret
      exact ⟨rfl, hb⟩

theorem zero_yes (a : Option Addr) (c : Nat) (w : World) : Calls Try.prog 27 #[.agg #[.int .i64 0, .int .i64 0, .string ByteArray.empty, .slice a 0 c]] w fun e w' => e = .returned (.bool true) ∧ Below w.heap.size w w' := by
  go_enter Try.func27, Try.ntmps27
  go_wp2_with fail
  go_ret
  exact ⟨rfl, (Below.refl _ _).alloc (Nat.le_refl _) _⟩

end Go.Proofs.Ythjmbbpakidkdaa
