/- What the program's putting of a number comes to: a copy of the bytes in new memory, and the groups behind it. -/
import Derived.Test.YtfachfimdenapaaDoorNumM
import Derived.Test.YtfachfimdenapaaDoorPutNum0M
import Derived.Laws.CopyOwn
import Derived.Lib.AppendStr
namespace Go.Proofs.YtfachfimdenapaaDoor
open Go.RowKit

theorem ret1p {a b : Int} (h : a = b) : Ending.returned (.int .i64 a) = .returned (.int .i64 b) := by rw [h]

set_option maxHeartbeats 400000 in
theorem numCode_any (n : Int) (w : World) (h0 : -9223372036854775808 ≤ n) (h1 : n ≤ 9223372036854775807) :
    Calls Tryd.prog 40 #[.int .i64 n] w fun e w' => e = .returned (.int .i64 (code n)) ∧ w' = w := by
  by_cases c1 : 1000000000000 < n
  · have hc : Hid (2000000000000 = code n) := by have : clamp n = 1000000000000 := by unfold clamp; rw [if_pos c1]
                                                 unfold code; rw [this]; exact rfl
    go_enter Tryd.func40, Tryd.ntmps40
    go_wp2
    go_ret
    exact ⟨ret1p hc.out, rfl⟩
  · by_cases c2 : n ≤ -1000000000000
    · have hc : Hid (1999999999999 = code n) := by have : clamp n = -1000000000000 := by unfold clamp; rw [if_neg c1]; split <;> omega
                                                   unfold code; rw [this]; exact rfl
      go_enter Tryd.func40, Tryd.ntmps40
      go_wp2
      go_ret
      exact ⟨ret1p hc.out, rfl⟩
    · have hcl : clamp n = n := by unfold clamp; rw [if_neg c1, if_neg (by omega)]
      by_cases c3 : n < 0
      · have hc : Hid (-2 * n - 1 = code n) := by unfold code; rw [hcl, if_pos c3]; exact rfl
        clear hcl
        go_enter Tryd.func40, Tryd.ntmps40
        go_wp2
        go_ret
        exact ⟨ret1p hc.out, rfl⟩
      · have hc : Hid (2 * n = code n) := by unfold code; rw [hcl, if_neg c3]; exact rfl
        clear hcl
        go_enter Tryd.func40, Tryd.ntmps40
        go_wp2
        go_ret
        exact ⟨ret1p hc.out, rfl⟩

theorem u8_size : (Tryd.prog.info? 5).map (·.size) = some 1 := by kernel_rfl

/-- From a block's whole row to what is owned. -/
theorem own_of_row {w : World} {g n base : Nat} {xs : List Value} (h : w.heap[g]? = some (.cells xs.toArray 5 (0, 0))) (hx : xs.length = n) (hb : base ≤ g) (hm : n ≤ maxLen) :
    w.ownsRow base 5 1 (.slice (some ⟨g, 0, none⟩) n n) n xs :=
  ⟨by omega, .inr ⟨g, n, xs.toArray, rfl, hb, h, Nat.le_refl _, hm, by simp; omega, by rw [List.take_of_length_le (by simp; omega)]⟩⟩

end Go.Proofs.YtfachfimdenapaaDoor

/- What the program's appending of one number comes to: its groups behind the bytes, in place or in new memory. -/
namespace Go.Proofs.YtfachfimdenapaaDoor
open Go.RowKit

theorem one_new (w : World) (x : Value) (t : TypeId) : ∀ j u, [x][j]? = some u → (w.alloc (.cells #[x] t)).cell? ((⟨w.heap.size, 0, none⟩ : Addr).add j) = some u := by
  intro j u hj
  match j, hj with
  | 0, hj => simp at hj; subst hj; simp [Addr.add]

theorem snoc_map (xs : List Int) (x : Int) : xs.map (Value.int .u8) ++ [Value.int .u8 x] = (xs ++ [x]).map (Value.int .u8) := by simp

set_option maxHeartbeats 1000000 in
theorem appendNums_one (v : Value) (xs : List Int) (B c0 o0 cc : Nat) (N : Int) (w : World) (hown : w.ownsRow B 5 1 v xs.length (xs.map (Value.int .u8))) (hB : B ≤ w.heap.size)
    (hcell : w.cell? ⟨c0, o0, none⟩ = some (.int .i64 N)) (hn : xs.length ≤ 1073741824) (h0 : -9223372036854775808 ≤ N) (h1 : N ≤ 9223372036854775807) :
    Calls Tryd.prog 23 #[v, .slice (some ⟨c0, o0, none⟩) 1 cc] w fun e w' => ∃ v', e = .returned v' ∧
      w'.ownsRow B 5 1 v' (xs ++ enc (code N)).length ((xs ++ enc (code N)).map (Value.int .u8)) ∧ Below B w w' := by
  obtain ⟨i0, hi, hz0, hz1, hz2⟩ := info_parts Tryd.info5
  have hcb := code_bd N
  have hl6 := enc_len6 (code N) (by omega)
  obtain ⟨C, hC⟩ : ∃ C, C = code N := ⟨_, rfl⟩
  have hnc := numCode_any N w h0 h1
  rw [← hC] at hcb hl6 hnc ⊢
  clear hC
  go_enter Tryd.func23, Tryd.ntmps23
  go_wp2
  go_loopw [0, 10] (fun a i wr => (i = .int .i64 0 ∧ v = a ∧ w = wr) ∨ (i = .int .i64 1 ∧ wr.ownsRow B 5 1 a (xs ++ enc C).length ((xs ++ enc C).map (Value.int .u8)) ∧ Below B w wr)) (fun _ i _ => 1 - (intOf i).toNat)
  case atStart => exact .inl ⟨rfl, rfl, rfl⟩
  case round =>
    rcases hrel with ⟨rfl, rfl, rfl⟩ | ⟨rfl, hres, hbres⟩
    · go_wp2_with fail
      refine hnc.mono ?_
      clear hnc
      rintro e w' ⟨rfl, rfl⟩
      go_wp2_with fail
      go_loopw [0, 7] (fun a c wr => ∃ (m : Int) (cur : List Int), 0 ≤ m ∧ m ≤ 2000000000000 ∧ c = .int .i64 m ∧ wr.ownsRow B 5 1 a cur.length (cur.map (Value.int .u8)) ∧ Below B w' wr ∧ Hid (cur ++ enc m = xs ++ enc C)) (fun _ c _ => (intOf c).toNat)
      case atStart => exact ⟨C, xs, hcb.1, hcb.2, rfl, hown, Below.refl _ _, rfl⟩
      case round =>
        obtain ⟨m, cur, hm0, hm1, rfl, hown1, hbel1, HE⟩ := hrel
        have hcl : cur.length ≤ 1073741824 + 6 := by
          have e := congrArg List.length HE.out
          have := enc_len_pos m
          simp only [List.length_append] at e; omega
        have hsz : B ≤ wr.heap.size := Nat.le_trans hB hbel1.size
        clear hown hcell
        by_cases hgt : 127 < m
        · go_wp2_with (at_builtin; refine wpList_append_own _ rfl (.tmp 18) (.tmp 23) 27 rfl B 5 i0 (.int .u8 0) 1 1 Tryd.underlying27 hi hz0 hz1 hz2 rfl (by decide) _ _ _ rfl (hown1.alloc _) ⟨wr.heap.size, 0, none⟩ 1 1 [.int .u8 (m % 128 + 128)] rfl rfl ?c1 ?c2 ?c3 ?c4 ?c5 ?_)
          case c1 => exact one_new _ _ _
          case c2 => intro u hu; simp at hu; subst hu; rfl
          case c3 => unfold maxLen; omega
          case c4 => omega
          case c5 => simp; omega
          intro v' w2 hown2 hgrow2 _
          rw [snoc_map] at hown2
          have hbel2 : Below B w' w2 := (hbel1.alloc hsz _).grown hgrow2 (by simp; omega) (fun k hk => (hown1.lt k hk).1)
          have hE2 : Hid ((cur ++ [m % 128 + 128]) ++ enc (m / 128) = xs ++ enc C) := by have := HE.out; rw [enc_go m hgt] at this; show _ = _; rw [← this]; simp
          clear hown1 hgrow2 hbel1 HE hcb hl6
          go_wp2
          go_roundw
          case rel => exact ⟨m / 128, cur ++ [m % 128 + 128], by omega, by omega, by go_num, by simpa using hown2, hbel2, hE2⟩
          case measure => simp [intOf]; omega
        · have hle : m ≤ 127 := by omega
          go_wp2_with (at_builtin; refine wpList_append_own _ rfl (.tmp 27) (.tmp 30) 27 rfl B 5 i0 (.int .u8 0) 1 1 Tryd.underlying27 hi hz0 hz1 hz2 rfl (by decide) _ _ _ rfl (hown1.alloc _) ⟨wr.heap.size, 0, none⟩ 1 1 [.int .u8 m] rfl rfl ?d1 ?d2 ?d3 ?d4 ?d5 ?_)
          case d2 => first | rfl | (intro u hu; simp at hu; subst hu; rfl)
          case d3 => unfold maxLen; omega
          case d4 => omega
          case d5 => first | omega | (simp; omega)
          intro v' w2 hown2 hgrow2 _
          rw [snoc_map] at hown2
          have hbel2 : Below B w' w2 := (hbel1.alloc hsz _).grown hgrow2 (by simp; omega) (fun k hk => (hown1.lt k hk).1)
          have hE2 : Hid (cur ++ [m] = xs ++ enc C) := by have := HE.out; rw [enc_end m hle] at this; exact this
          have hown3 : Hid (w2.ownsRow B 5 1 v' (xs ++ enc C).length ((xs ++ enc C).map (Value.int .u8))) := by rw [← hE2.out]; show w2.ownsRow _ _ _ _ _ _; simpa using hown2
          clear hown1 hgrow2 hbel1 HE hcb hl6 hE2 hown2
          go_wp2
          go_roundw
          case rel => exact .inr ⟨by go_num, hown3.out, hbel2⟩
          case measure => simp [intOf]
    · go_wp2
      go_ret
      exact ⟨_, rfl, hres, hbres⟩

end Go.Proofs.YtfachfimdenapaaDoor

/- The law's own helpers that mark a row of bytes and ask whether the marks are held. -/
namespace Go.Proofs.YtfachfimdenapaaDoor
open Go.RowKit

/-- The marks from 1 on of the first k bytes, behind them what was there. -/
def marked (xs : List Value) (k : Nat) : List Value := (List.range k).map (fun i : Nat => Value.int .u8 (((i : Int) + 1) % 256)) ++ xs.drop k

theorem marked_len (xs : List Value) (k : Nat) (h : k ≤ xs.length) : (marked xs k).length = xs.length := by simp [marked]; omega
theorem marked_step (xs : List Value) (k : Nat) (h : k < xs.length) : (marked xs k).set k (.int .u8 (((k : Int) + 1) % 256)) = marked xs (k + 1) := by
  unfold marked
  rw [List.set_append_right _ _ (by simp), List.length_map, List.length_range, Nat.sub_self, List.drop_eq_getElem_cons h, List.set_cons_zero, List.range_succ]
  simp

theorem marked_at (xs : List Value) (n j : Nat) (h : j < n) : (marked xs n)[j]? = some (.int .u8 (((j : Int) + 1) % 256)) := by
  unfold marked
  rw [List.getElem?_append_left (by simpa using h)]
  simp [h]

/-- What is owned stays owned where the block is as it was. -/
theorem own_same {w w' : World} {B g n c : Nat} {xs : List Value} (h : w.ownsRow B 5 1 (.slice (some ⟨g, 0, none⟩) n c) n xs) (hh : w'.heap[g]? = w.heap[g]?) : w'.ownsRow B 5 1 (.slice (some ⟨g, 0, none⟩) n c) n xs := by
  refine ⟨h.1, ?_⟩
  rcases h.2 with ⟨h', _⟩ | ⟨g', cap', cur, h', hb, hg, r⟩
  · simp at h'
  · simp only [Value.slice.injEq, Option.some.injEq, Addr.mk.injEq, and_true, true_and] at h'
    obtain ⟨rfl, rfl⟩ := h'
    exact .inr ⟨g, c, cur, rfl, hb, by rw [hh]; exact hg, r⟩

theorem own_below {w w' : World} {B g n c : Nat} {xs : List Value} (h : w.ownsRow B 5 1 (.slice (some ⟨g, 0, none⟩) n c) n xs) (hb : Below w.heap.size w w') : w'.ownsRow B 5 1 (.slice (some ⟨g, 0, none⟩) n c) n xs :=
  own_same h (hb.block g (own_lt h))

theorem own_grown {w w' : World} {B g k n c : Nat} {xs : List Value} (h : w.ownsRow B 5 1 (.slice (some ⟨g, 0, none⟩) n c) n xs) (hb : w.grownBy w' (some k)) (hne : g ≠ k) : w'.ownsRow B 5 1 (.slice (some ⟨g, 0, none⟩) n c) n xs :=
  own_same h (hb.block g (own_lt h) (by simpa using hne))

theorem own_drewN {w : World} {B n : Nat} {v : Value} {xs : List Value} (h : w.ownsRow B 5 1 v n xs) (q : Nat) : (w.drewN q).ownsRow B 5 1 v n xs := by
  induction q with
  | zero => exact h
  | succ q ih => exact ih.drew

/-- What is owned and is not empty lies at the head of a row. -/
theorem own_shape {w : World} {B n : Nat} {v : Value} {xs : List Value} (h : w.ownsRow B 5 1 v n xs) (hn : 0 < n) : ∃ g c, v = .slice (some ⟨g, 0, none⟩) n c ∧ B ≤ g := by
  rcases h.2 with ⟨_, h0⟩ | ⟨g, c, cur, h1, h2, _⟩
  · omega
  · exact ⟨g, c, h1, h2⟩

/-- A row of the call's own, as a slice that comes in. -/
theorem own_isRow {w : World} {B g n c : Nat} {xs : List Int} (h : w.ownsRow B 5 1 (.slice (some ⟨g, 0, none⟩) n n) n (xs.map (Value.int .u8))) (hr : ∀ x ∈ xs, 0 ≤ x ∧ x ≤ 255) (hc : c = n) (hm : n ≤ maxLen) : IsRow .u8 w (some ⟨g, 0, none⟩) n c xs := by
  subst hc
  have hl : xs.length = c := by have := h.1; simpa using this
  exact .inr ⟨_, rfl, Nat.le_refl _, hm, hl, fun i hi => by have := own_cells h i (by omega); rw [Addr.add_lit]; exact this, fun x hx => by have := hr x hx; exact WalkArith.wf_u8 (by omega)⟩

set_option maxHeartbeats 400000 in
theorem markByteS_any (B g n c : Nat) (xs : List Value) (w : World) (hown : w.ownsRow B 5 1 (.slice (some ⟨g, 0, none⟩) n c) n xs) (hm : n ≤ 1099511627776) :
    Calls Tryd.prog 11 #[.slice (some ⟨g, 0, none⟩) n c, .int .i64 1] w fun e w' => e = .returned (.int .i64 ((n : Int) + 1)) ∧
      w'.ownsRow B 5 1 (.slice (some ⟨g, 0, none⟩) n c) n (marked xs n) ∧ w.grownBy w' (some g) := by
  have hxl : xs.length = n := by have := hown.1; omega
  have HL : Hid (xs.length = n) := hxl
  clear hxl
  go_enter Tryd.func11, Tryd.ntmps11
  go_wp2
  go_loopw [1, 5] (fun k i wr => ∃ j : Nat, j ≤ n ∧ i = .int .i64 j ∧ k = .int .i64 ((j : Int) + 1) ∧ wr.ownsRow B 5 1 (.slice (some ⟨g, 0, none⟩) n c) n (marked xs j) ∧ w.grownBy wr (some g)) (fun _ i _ => n - (intOf i).toNat)
  case atStart => exact ⟨0, Nat.zero_le _, rfl, rfl, hown, World.grownBy.refl _ _⟩
  case round =>
    obtain ⟨j, hj, rfl, rfl, hown1, hgr1⟩ := hrel
    by_cases hlt : j < n
    · have hfz : wr.frozen? ⟨g, j, none⟩ = false := hown1.frozenAt j
      obtain ⟨v0, hv0⟩ : ∃ v, wr.cell? ⟨g, j, none⟩ = some v := by
        rw [hown1.cellAt j (by omega)]; exact ⟨_, List.getElem?_eq_getElem (by rw [marked_len xs j (by have := HL.out; omega), HL.out]; exact hlt)⟩
      have hst := hown1.stored j (.int .u8 (((j : Int) + 1) % 256))
      rw [marked_step xs j (by have := HL.out; omega)] at hst
      have hgr2 : w.grownBy (wr.setCell ⟨g, j, none⟩ (.int .u8 (((j : Int) + 1) % 256))) (some g) := ⟨hst.2.os.trans hgr1.os, hst.2.tape.trans hgr1.tape, hst.2.output.trans hgr1.output, Nat.le_trans hgr1.size hst.2.size, fun k hk hne => (hst.2.block k (Nat.lt_of_lt_of_le hk hgr1.size) hne).trans (hgr1.block k hk hne)⟩
      have hst1 := hst.1
      clear hst
      go_wp2
      go_roundw
      case rel => exact ⟨j + 1, by omega, by go_num, by go_num, hst1, hgr2⟩
      case measure => simp [intOf]; omega
    · have hjn : j = n := by omega
      subst hjn
      go_wp2
      go_ret
      exact ⟨rfl, hown1, hgr1⟩

set_option maxHeartbeats 400000 in
theorem heldByteS_any (B g n c : Nat) (xs : List Value) (w : World) (hown : w.ownsRow B 5 1 (.slice (some ⟨g, 0, none⟩) n c) n (marked xs n)) (hm : n ≤ 1099511627776) :
    Calls Tryd.prog 12 #[.slice (some ⟨g, 0, none⟩) n c, .int .i64 1] w fun e w' => e = .returned (.int .i64 ((n : Int) + 1)) ∧ w' = w := by
  have hc : ∀ j, j < n → w.cell? ⟨g, j, none⟩ = some (.int .u8 (((j : Int) + 1) % 256)) := fun j hj => by rw [hown.cellAt j (by omega), marked_at xs n j hj]
  clear hown
  go_enter Tryd.func12, Tryd.ntmps12
  go_wp2
  go_loop [1, 5] (fun k i => ∃ j : Nat, j ≤ n ∧ i = .int .i64 j ∧ k = .int .i64 ((j : Int) + 1)) (fun _ i => n - (intOf i).toNat)
  case atStart => exact ⟨0, Nat.zero_le _, rfl, rfl⟩
  case round =>
    obtain ⟨j, hj, rfl, rfl⟩ := hrel
    by_cases hlt : j < n
    · have hcj := hc j hlt
      clear hc
      go_wp2
      go_round
      case rel => exact ⟨j + 1, by omega, by go_num, by go_num⟩
      case measure => simp [intOf]; omega
    · have hjn : j = n := by omega
      subst hjn
      go_wp2
      go_ret
      exact ⟨rfl, rfl⟩

/-- 'eqByteS_same' at two rows of the call's own. -/
theorem eqByteS_below (B1 B2 g1 c1 g2 c2 n : Nat) (xs : List Int) (w : World) (h1 : w.ownsRow B1 5 1 (.slice (some ⟨g1, 0, none⟩) n c1) n (xs.map (Value.int .u8))) (h2 : w.ownsRow B2 5 1 (.slice (some ⟨g2, 0, none⟩) n c2) n (xs.map (Value.int .u8))) (hm : n ≤ 4611686018427387904) :
    Calls Tryd.prog 8 #[.slice (some ⟨g1, 0, none⟩) n c1, .slice (some ⟨g2, 0, none⟩) n c2] w fun e w' => e = .returned (.bool true) ∧ Below w.heap.size w w' := by
  refine (eqByteS_same g1 0 c1 g2 0 c2 n xs w hm (own_cells h1) (own_cells h2)).mono ?_
  rintro e w' ⟨rfl, q, rfl⟩
  exact ⟨rfl, below_drewN (Below.refl _ _) q⟩

end Go.Proofs.YtfachfimdenapaaDoor

/- What the model's putting of a number comes to: the same bytes as the program's. -/
namespace Go.Proofs.YtfachfimdenapaaDoor
open Go.RowKit

theorem code_hi {n : Int} (h : 1000000000000 < n) : code n = 2000000000000 := by
  have : clamp n = 1000000000000 := by unfold clamp; rw [if_pos h]
  unfold code; rw [this]; rfl
theorem code_lo {n : Int} (h : n < -1000000000000) : code n = 1999999999999 := by
  have : clamp n = -1000000000000 := by unfold clamp; rw [if_neg (by omega), if_pos h]
  unfold code; rw [this]; rfl
theorem code_neg {n : Int} (h1 : -1000000000000 ≤ n) (h : n < 0) : code n = -2 * n - 1 := by
  have : clamp n = n := by unfold clamp; rw [if_neg (by omega), if_neg (by omega)]
  unfold code; rw [this, if_pos h]
theorem code_pos {n : Int} (h1 : n ≤ 1000000000000) (h : 0 ≤ n) : code n = 2 * n := by
  have : clamp n = n := by unfold clamp; rw [if_neg (by omega), if_neg (by omega)]
  unfold code; rw [this, if_neg (by omega)]

set_option maxRecDepth 100000 in
set_option maxHeartbeats 1000000 in
theorem specPutNum_any (b off n cap : Nat) (zs : List Int) (N : Int) (w : World) (hz : zs.length = n) (hm : n ≤ 1073741824) (hb : b < w.heap.size)
    (hc : ∀ i, i < n → w.cell? ⟨b, off + i, none⟩ = some (.int .u8 (zs.getD i 0))) (h0 : -9223372036854775808 ≤ N) (h1 : N ≤ 9223372036854775807) :
    Calls Tryd.prog 17 #[.slice (some ⟨b, off, none⟩) n cap, .int .i64 N] w fun e w' => ∃ v', e = .returned v' ∧
      w'.ownsRow w.heap.size 5 1 v' (zs ++ enc (code N)).length ((zs ++ enc (code N)).map (Value.int .u8)) ∧ Below w.heap.size w w' := by
  obtain ⟨i0, hi, hz0, hz1, hz2⟩ := info_parts Tryd.info5
  have hcb := code_bd N
  have hl6 := enc_len6 (code N) (by omega)
  have hnews : ∀ j u, (zs.map (Value.int .u8))[j]? = some u → (w.alloc (.cells #[] 5)).cell? ((⟨b, off, none⟩ : Addr).add j) = some u := by
    intro j u hj
    have hj' : j < n := by have := (List.getElem?_eq_some_iff.1 hj).1; simpa [hz] using this
    rw [Addr.add_lit, World.cell?_alloc_past _ b _ hb, hc j hj', ← hj]
    simp [hz, hj']
  have hlit : (w.alloc (.cells #[] 5)).ownsRow w.heap.size 5 1 (.slice (some ⟨w.heap.size, 0, none⟩) 0 0) 0 [] := World.ownsRow_lit w #[] 0 (Nat.le_refl _) (Nat.zero_le _) rfl
  have key : (1000000000000 < N ∧ code N = 2000000000000) ∨ (N < -1000000000000 ∧ code N = 1999999999999) ∨ ((-1000000000000 ≤ N ∧ N < 0) ∧ code N = -2 * N - 1) ∨ ((0 ≤ N ∧ N ≤ 1000000000000) ∧ code N = 2 * N) := by
    by_cases c1 : 1000000000000 < N
    · exact .inl ⟨c1, code_hi c1⟩
    · by_cases c2 : N < -1000000000000
      · exact .inr (.inl ⟨c2, code_lo c2⟩)
      · by_cases c3 : N < 0
        · exact .inr (.inr (.inl ⟨⟨by omega, c3⟩, code_neg (by omega) c3⟩))
        · exact .inr (.inr (.inr ⟨⟨by omega, by omega⟩, code_pos (by omega) (by omega)⟩))
  have HZ : Hid (zs.length = n) := hz
  obtain ⟨cs, hcs⟩ : ∃ cs, cs = zs.map (Value.int .u8) := ⟨_, rfl⟩
  have HCS : Hid (cs = zs.map (Value.int .u8)) := hcs
  have hcl : cs.length = n * 1 := by rw [hcs, List.length_map, hz, Nat.mul_one]
  have hone : ∀ u ∈ cs, u.oneCell' = true := by rw [hcs]; exact ints_oneCell _ _
  rw [← hcs] at hnews
  clear hcs hz hc
  rcases key with ⟨c1, hC⟩ | ⟨c1, hC⟩ | ⟨⟨c1, c2⟩, hC⟩ | ⟨⟨c1, c2⟩, hC⟩
  all_goals
    have HC : Hid (code N = _) := hC
    rw [hC] at hcb hl6
    clear hC
    obtain ⟨hcb0, hcb1⟩ := hcb
    go_enter Tryd.func17, Tryd.ntmps17
    go_wp2_with (at_builtin; refine wpList_append_own _ rfl (.tmp 7) (.tmp 8) 27 rfl w.heap.size 5 i0 (.int .u8 0) 1 1 Tryd.underlying27 hi hz0 hz1 hz2 rfl (by decide) _ _ _ rfl hlit ⟨b, off, none⟩ n cap cs rfl hcl hnews hone (by unfold maxLen; omega) (by omega) (by simp) ?_)
    intro v1 w1 hown1 hgrow1 _
    have hown : w1.ownsRow w.heap.size 5 1 v1 zs.length (zs.map (Value.int .u8)) := by rw [← HCS.out, HZ.out]; simpa using hown1
    have hbel : Below w.heap.size w w1 := ((Below.refl _ w).alloc (Nat.le_refl _) _).grown hgrow1 (by simp) (fun k hk => (hlit.lt k hk).1)
    clear hown1 hgrow1 hlit hnews hone
    go_wp2_with fail
    go_loopw [5, 6] (fun a c wr => ∃ (m : Int) (cur : List Int), 0 ≤ m ∧ m ≤ 2000000000000 ∧ c = .int .i64 m ∧ wr.ownsRow w.heap.size 5 1 a cur.length (cur.map (Value.int .u8)) ∧ Below w.heap.size w wr ∧ Hid (cur ++ enc m = zs ++ enc (code N))) (fun _ c _ => (intOf c).toNat)
    case atStart => exact ⟨_, zs, hcb0, hcb1, rfl, hown, hbel, by rw [HC.out]; exact rfl⟩
    case round =>
      obtain ⟨m, cur, hm0, hm1, rfl, hown1, hbel1, HE⟩ := hrel
      have hcl : cur.length ≤ 1073741824 + 6 := by
        have e := congrArg List.length HE.out
        have e1 := HZ.out
        have := enc_len_pos m
        rw [HC.out] at e
        simp only [List.length_append] at e; omega
      have hsz : w.heap.size ≤ wr.heap.size := hbel1.size
      clear hown hbel
      by_cases hgt : 127 < m
      · have hand := i64_and127 m
        have hor := or128 (m % 128) (by omega) (by omega)
        go_wp2_with (at_builtin; refine wpList_append_own _ rfl (.tmp 23) (.tmp 28) 27 rfl w.heap.size 5 i0 (.int .u8 0) 1 1 Tryd.underlying27 hi hz0 hz1 hz2 rfl (by decide) _ _ _ rfl (hown1.alloc _) ⟨wr.heap.size, 0, none⟩ 1 1 [.int .u8 (m % 128 + 128)] rfl rfl (one_new _ _ _) (by intro u hu; simp at hu; subst hu; rfl) (by unfold maxLen; omega) (by omega) (by simp; omega) ?_)
        intro v' w2 hown2 hgrow2 _
        rw [snoc_map] at hown2
        have hbel2 : Below w.heap.size w w2 := (hbel1.alloc hsz _).grown hgrow2 (by simp; omega) (fun k hk => (hown1.lt k hk).1)
        have hE2 : Hid ((cur ++ [m % 128 + 128]) ++ enc (m / 128) = zs ++ enc (code N)) := by have := HE.out; rw [enc_go m hgt] at this; show _ = _; rw [← this]; simp
        clear hown1 hgrow2 hbel1 HE hcb0 hcb1 hl6
        go_wp2
        go_roundw
        case rel => exact ⟨m / 128, cur ++ [m % 128 + 128], by omega, by omega, by go_num, by simpa using hown2, hbel2, hE2⟩
        case measure => simp [intOf]; omega
      · have hle : m ≤ 127 := by omega
        go_wp2_with (at_builtin; refine wpList_append_own _ rfl (.tmp 32) (.tmp 35) 27 rfl w.heap.size 5 i0 (.int .u8 0) 1 1 Tryd.underlying27 hi hz0 hz1 hz2 rfl (by decide) _ _ _ rfl (hown1.alloc _) ⟨wr.heap.size, 0, none⟩ 1 1 [.int .u8 m] rfl rfl (one_new _ _ _) (by intro u hu; simp at hu; subst hu; rfl) (by unfold maxLen; omega) (by omega) (by simp; omega) ?_)
        intro v' w2 hown2 hgrow2 _
        rw [snoc_map] at hown2
        have hbel2 : Below w.heap.size w w2 := (hbel1.alloc hsz _).grown hgrow2 (by simp; omega) (fun k hk => (hown1.lt k hk).1)
        have hE2 : Hid (cur ++ [m] = zs ++ enc (code N)) := by have := HE.out; rw [enc_end m hle] at this; exact this
        have hown3 : Hid (w2.ownsRow w.heap.size 5 1 v' (zs ++ enc (code N)).length ((zs ++ enc (code N)).map (Value.int .u8))) := by rw [← hE2.out]; show w2.ownsRow _ _ _ _ _ _; simpa using hown2
        clear hown1 hgrow2 hbel1 HE hcb0 hcb1 hl6 hE2 hown2
        go_wp2
        go_ret
        exact ⟨_, rfl, hown3.out, hbel2⟩

/-- 'specPutNum_any', the result's row told. -/
theorem specPutNum_row (b off n cap : Nat) (zs : List Int) (N : Int) (w : World) (hz : zs.length = n) (hm : n ≤ 1073741824) (hb : b < w.heap.size)
    (hc : ∀ i, i < n → w.cell? ⟨b, off + i, none⟩ = some (.int .u8 (zs.getD i 0))) (h0 : -9223372036854775808 ≤ N) (h1 : N ≤ 9223372036854775807)
    (ys : List Int) (hys : zs ++ enc (code N) = ys) (L : Nat) (hL : ys.length = L) :
    Calls Tryd.prog 17 #[.slice (some ⟨b, off, none⟩) n cap, .int .i64 N] w fun e w' => ∃ g c, e = .returned (.slice (some ⟨g, 0, none⟩) L c) ∧ w.heap.size ≤ g ∧
      w'.ownsRow w.heap.size 5 1 (.slice (some ⟨g, 0, none⟩) L c) L (ys.map (Value.int .u8)) ∧ Below w.heap.size w w' := by
  refine (specPutNum_any b off n cap zs N w hz hm hb hc h0 h1).mono ?_
  rintro e w' ⟨v', rfl, hown, hbel⟩
  rw [hys, hL] at hown
  have hp : 0 < L := by have := enc_len_pos (code N); rw [← hL, ← hys, List.length_append]; omega
  obtain ⟨g, c, rfl, hg⟩ := own_shape hown hp
  exact ⟨g, c, rfl, hg, hown, hbel⟩

end Go.Proofs.YtfachfimdenapaaDoor

/- What putting a text comes to, in the program and in the model: its size's groups, then its bytes. -/
namespace Go.Proofs.YtfachfimdenapaaDoor
open Go.RowKit

/-- A text's bytes as numbers. -/
def nums (s : ByteArray) : List Int := s.data.toList.map fun b => (b.toNat : Int)

theorem nums_cells (s : ByteArray) : Lib.strCells s = (nums s).map (Value.int .u8) := by simp [Lib.strCells, nums]
theorem nums_length (s : ByteArray) : (nums s).length = s.size := by rw [nums, List.length_map, Array.length_toList]; rfl

/-- The bytes of a text behind its size. -/
def put (s : ByteArray) : List Int := enc (code s.size) ++ nums s

set_option maxHeartbeats 1000000 in
theorem appendTexts_one (v : Value) (xs : List Int) (B c0 o0 cc : Nat) (s : ByteArray) (w : World) (hown : w.ownsRow B 5 1 v xs.length (xs.map (Value.int .u8))) (hB : B ≤ w.heap.size)
    (hcell : w.cell? ⟨c0, o0, none⟩ = some (.string s)) (hn : xs.length ≤ 1073741824) (hs : s.size ≤ 1073741824) :
    Calls Tryd.prog 41 #[v, .slice (some ⟨c0, o0, none⟩) 1 cc] w fun e w' => ∃ v', e = .returned v' ∧
      w'.ownsRow B 5 1 v' (xs ++ put s).length ((xs ++ put s).map (Value.int .u8)) ∧ Below B w w' := by
  obtain ⟨i0, hi, hz0, hz1, hz2⟩ := info_parts Tryd.info5
  have hl6 := enc_len6 (code s.size) (by have := code_bd s.size; omega)
  go_enter Tryd.func41, Tryd.ntmps41
  go_wp2
  go_loopw [0, 9] (fun a i wr => (i = .int .i64 0 ∧ v = a ∧ w = wr) ∨ (i = .int .i64 1 ∧ wr.ownsRow B 5 1 a (xs ++ put s).length ((xs ++ put s).map (Value.int .u8)) ∧ Below B w wr)) (fun _ i _ => 1 - (intOf i).toNat)
  case atStart => exact .inl ⟨rfl, rfl, rfl⟩
  case round =>
    rcases hrel with ⟨rfl, rfl, rfl⟩ | ⟨rfl, hres, hbres⟩
    · go_wp2_with fail
      refine (appendNums_one v xs B w.heap.size 0 1 s.size _ (hown.alloc _) (by simp; omega) (by simp) hn (by omega) (by omega)).mono ?_
      rintro e w1 ⟨v1, rfl, hown1, hbel1⟩
      have hbel : Below B w w1 := ((Below.refl _ w).alloc hB _).trans hbel1
      have hsz := hbel.size
      have hl1 : (xs ++ enc (code s.size)).length ≤ 1073741824 + 6 := by rw [List.length_append]; omega
      obtain ⟨ys, hys⟩ : ∃ ys, xs ++ enc (code s.size) = ys := ⟨_, rfl⟩
      have HY : Hid (xs ++ put s = ys ++ nums s) := by rw [← hys]; show _ = _; rw [put, List.append_assoc]
      rw [hys] at hown1 hl1
      clear hys hown hbel1 hcell
      go_wp2_with (at_builtin; refine Lib.wpList_append_own_string _ rfl (.tmp 18) (.tmp 19) 27 9 rfl B 5 i0 Tryd.underlying27 Tryd.underlying9 hi hz0 hz1 hz2 _ _ _ rfl hown1 s rfl (by unfold maxLen; omega) (by omega) (by omega) ?_)
      intro v' w2 hown2 hgrow2 _
      have hbel2 : Below B w w2 := hbel.grown hgrow2 (by omega) (fun k hk => (hown1.lt k hk).1)
      have hown3 : Hid (w2.ownsRow B 5 1 v' (xs ++ put s).length ((xs ++ put s).map (Value.int .u8))) := by
        rw [HY.out, List.length_append, List.map_append, ← nums_cells, nums_length]; exact hown2
      clear hown1 hgrow2 hbel HY hown2
      go_wp2
      go_roundw
      case rel => exact .inr ⟨by go_num, hown3.out, hbel2⟩
      case measure => simp [intOf]
    · go_wp2
      go_ret
      exact ⟨_, rfl, hres, hbres⟩

set_option maxHeartbeats 400000 in
theorem specPutText_row (b off n cap : Nat) (zs : List Int) (s : ByteArray) (w : World) (hz : zs.length = n) (hm : n ≤ 1073741824) (hb : b < w.heap.size)
    (hc : ∀ i, i < n → w.cell? ⟨b, off + i, none⟩ = some (.int .u8 (zs.getD i 0))) (hs : s.size ≤ 1073741824)
    (ys : List Int) (hys : zs ++ put s = ys) (L : Nat) (hL : ys.length = L) :
    Calls Tryd.prog 18 #[.slice (some ⟨b, off, none⟩) n cap, .string s] w fun e w' => ∃ g c, e = .returned (.slice (some ⟨g, 0, none⟩) L c) ∧ w.heap.size ≤ g ∧
      w'.ownsRow w.heap.size 5 1 (.slice (some ⟨g, 0, none⟩) L c) L (ys.map (Value.int .u8)) ∧ Below w.heap.size w w' := by
  obtain ⟨i0, hi, hz0, hz1, hz2⟩ := info_parts Tryd.info5
  have hl6 := enc_len6 (code s.size) (by have := code_bd s.size; omega)
  have hl1 : (zs ++ enc (code s.size)).length ≤ 1073741824 + 6 := by rw [List.length_append]; omega
  have hP := specPutNum_row b off n cap zs s.size w hz hm hb hc (by omega) (by omega) _ rfl _ rfl
  have HP : Hid (0 < L) := by have := enc_len_pos (code s.size); show 0 < L; rw [← hL, ← hys, put, List.length_append, List.length_append]; omega
  obtain ⟨xs, hxs⟩ : ∃ xs, zs ++ enc (code s.size) = xs := ⟨_, rfl⟩
  have HY : Hid (xs ++ nums s = ys) := by rw [← hys, ← hxs]; show _ = _; rw [put, List.append_assoc]
  have HL : Hid (ys.length = L) := hL
  rw [hxs] at hP hl1
  clear hys hL hxs hc hz
  go_enter Tryd.func18, Tryd.ntmps18
  go_wp2_with fail
  refine hP.mono ?_
  clear hP
  rintro e w1 ⟨g1, c1, rfl, hg1, hown1, hbel1⟩
  have hsz := hbel1.size
  go_wp2_with (at_builtin; refine Lib.wpList_append_own_string _ rfl (.tmp 8) (.tmp 9) 27 9 rfl w.heap.size 5 i0 Tryd.underlying27 Tryd.underlying9 hi hz0 hz1 hz2 _ _ _ rfl hown1 s rfl (by unfold maxLen; omega) (by omega) (by omega) ?_)
  intro v' w2 hown2 hgrow2 _
  have hbel2 : Below w.heap.size w w2 := hbel1.grown hgrow2 (by omega) (fun k hk => (hown1.lt k hk).1)
  have hown3 : w2.ownsRow w.heap.size 5 1 v' L (ys.map (Value.int .u8)) := by
    have e : xs.length + s.size = L := by rw [← HL.out, ← HY.out, List.length_append, nums_length]
    rw [← HY.out, List.map_append, ← nums_cells, ← e]; exact hown2
  obtain ⟨g, c, hv, hg⟩ := own_shape hown3 HP.out
  rw [hv] at hown3 ⊢
  clear hown1 hgrow2 hbel1 hown2 hv
  go_wp2
  go_ret
  exact ⟨g, c, rfl, hg, hown3, hbel2⟩

end Go.Proofs.YtfachfimdenapaaDoor
