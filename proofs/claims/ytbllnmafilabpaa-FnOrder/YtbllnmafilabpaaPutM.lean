/- What the program's putting of a number comes to: a copy of the bytes in new memory, and the groups behind it. -/
import Derived.Test.YtbllnmafilabpaaNumM
import Derived.Test.YtbllnmafilabpaaPutNum0M
import Derived.Laws.CopyOwn
import Derived.Lib.AppendStr
import Derived.Deep.RegionWith
namespace Go.Proofs.Ytbllnmafilabpaa
open Go.RowKit

theorem ret1p {a b : Int} (h : a = b) : Ending.returned (.int .i64 a) = .returned (.int .i64 b) := by rw [h]

set_option maxHeartbeats 400000 in
theorem numCode_any (n : Int) (w : World) (h0 : -9223372036854775808 ≤ n) (h1 : n ≤ 9223372036854775807) :
    Calls Try.prog 42 #[.int .i64 n] w fun e w' => e = .returned (.int .i64 (code n)) ∧ w' = w := by
  by_cases c1 : 1000000000000 < n
  · have hc : Hid (2000000000000 = code n) := by have : clamp n = 1000000000000 := by unfold clamp; rw [if_pos c1]
                                                 unfold code; rw [this]; exact rfl
    go_enter Try.func42, Try.ntmps42
    go_wp2
    go_ret
    exact ⟨ret1p hc.out, rfl⟩
  · by_cases c2 : n ≤ -1000000000000
    · have hc : Hid (1999999999999 = code n) := by have : clamp n = -1000000000000 := by unfold clamp; rw [if_neg c1]; split <;> omega
                                                   unfold code; rw [this]; exact rfl
      go_enter Try.func42, Try.ntmps42
      go_wp2
      go_ret
      exact ⟨ret1p hc.out, rfl⟩
    · have hcl : clamp n = n := by unfold clamp; rw [if_neg c1, if_neg (by omega)]
      by_cases c3 : n < 0
      · have hc : Hid (-2 * n - 1 = code n) := by unfold code; rw [hcl, if_pos c3]; exact rfl
        clear hcl
        go_enter Try.func42, Try.ntmps42
        go_wp2
        go_ret
        exact ⟨ret1p hc.out, rfl⟩
      · have hc : Hid (2 * n = code n) := by unfold code; rw [hcl, if_neg c3]; exact rfl
        clear hcl
        go_enter Try.func42, Try.ntmps42
        go_wp2
        go_ret
        exact ⟨ret1p hc.out, rfl⟩

theorem u8_size : (Try.prog.info? 5).map (·.size) = some 1 := by kernel_rfl

/-- From a block's whole row to what is owned. -/
theorem own_of_row {w : World} {g n base : Nat} {xs : List Value} (h : w.heap[g]? = some (.cells xs.toArray 5 (0, 0))) (hx : xs.length = n) (hb : base ≤ g) (hm : n ≤ maxLen) :
    w.ownsRow base 5 1 (.slice (some ⟨g, 0, none⟩) n n) n xs :=
  ⟨by omega, .inr ⟨g, n, xs.toArray, rfl, hb, h, Nat.le_refl _, hm, by simp; omega, by rw [List.take_of_length_le (by simp; omega)]⟩⟩

end Go.Proofs.Ytbllnmafilabpaa

/- What the program's appending of one number comes to: its groups behind the bytes, in place or in new memory. -/
namespace Go.Proofs.Ytbllnmafilabpaa
open Go.RowKit

theorem one_new (w : World) (x : Value) (t : TypeId) : ∀ j u, [x][j]? = some u → (w.alloc (.cells #[x] t)).cell? ((⟨w.heap.size, 0, none⟩ : Addr).add j) = some u := by
  intro j u hj
  match j, hj with
  | 0, hj => simp at hj; subst hj; simp [Addr.add]

theorem snoc_map (xs : List Int) (x : Int) : xs.map (Value.int .u8) ++ [Value.int .u8 x] = (xs ++ [x]).map (Value.int .u8) := by simp

set_option maxHeartbeats 1000000 in
theorem appendNums_one (v : Value) (xs : List Int) (B c0 o0 cc : Nat) (N : Int) (w : World) (hown : w.ownsRow B 5 1 v xs.length (xs.map (Value.int .u8))) (hB : B ≤ w.heap.size)
    (hcell : w.cell? ⟨c0, o0, none⟩ = some (.int .i64 N)) (hn : xs.length ≤ 1073741824) (h0 : -9223372036854775808 ≤ N) (h1 : N ≤ 9223372036854775807) :
    Calls Try.prog 28 #[v, .slice (some ⟨c0, o0, none⟩) 1 cc] w fun e w' => ∃ v', e = .returned v' ∧
      w'.ownsRow B 5 1 v' (xs ++ enc (code N)).length ((xs ++ enc (code N)).map (Value.int .u8)) ∧ Below B w w' := by
  obtain ⟨i0, hi, hz0, hz1, hz2⟩ := info_parts Try.info5
  have hcb := code_bd N
  have hl6 := enc_len6 (code N) (by omega)
  obtain ⟨C, hC⟩ : ∃ C, C = code N := ⟨_, rfl⟩
  have hnc := numCode_any N w h0 h1
  rw [← hC] at hcb hl6 hnc ⊢
  clear hC
  go_enter Try.func28, Try.ntmps28
  go_wp2
  go_loopw [0, 10] (fun a i wr => (i = .int .i64 0 ∧ v = a ∧ w = wr) ∨ (i = .int .i64 1 ∧ wr.ownsRow B 5 1 a (xs ++ enc C).length ((xs ++ enc C).map (Value.int .u8)) ∧ Below B w wr)) (fun _ i _ => 1 - (intOf i).toNat)
  case atStart => exact .inl ⟨rfl, rfl, rfl⟩
  case round =>
    rcases hrel with ⟨rfl, rfl, rfl⟩ | ⟨rfl, hres, hbres⟩
    · go_wp2_with fail
      refine hnc.mono ?_
      clear hnc
      rintro e w' ⟨rfl, rfl⟩
      go_wp2_with fail
      go_loopw [0, 7] (fun a c wr => ∃ (m : Int) (cur : List Int), 0 ≤ m ∧ m ≤ 2000000000000 ∧ c = .int .i64 m ∧ wr.ownsRow B 5 1 a cur.length (cur.map (Value.int .u8)) ∧ Below B w' wr ∧ Hid (cur ++ enc m = xs ++ enc C)) (fun _ c _ => (intOf c).toNat)
      case atStart => exact ⟨C, xs, hcb.1, hcb.2, rfl, hown, Below.refl _ _, rfl⟩
      case round =>
        obtain ⟨m, cur, hm0, hm1, rfl, hown1, hbel1, HE⟩ := hrel
        have hcl : cur.length ≤ 1073741824 + 6 := by
          have e := congrArg List.length HE.out
          have := enc_len_pos m
          simp only [List.length_append] at e; omega
        have hsz : B ≤ wr.heap.size := Nat.le_trans hB hbel1.size
        clear hown hcell
        by_cases hgt : 127 < m
        · go_wp2_with (at_builtin; refine wpList_append_own _ rfl (.tmp 18) (.tmp 23) 22 rfl B 5 i0 (.int .u8 0) 1 1 Try.underlying22 hi hz0 hz1 hz2 rfl (by decide) _ _ _ rfl (hown1.alloc _) ⟨wr.heap.size, 0, none⟩ 1 1 [.int .u8 (m % 128 + 128)] rfl rfl ?c1 ?c2 ?c3 ?c4 ?c5 ?_)
          case c1 => exact one_new _ _ _
          case c2 => intro u hu; simp at hu; subst hu; rfl
          case c3 => unfold maxLen; omega
          case c4 => omega
          case c5 => simp; omega
          intro v' w2 hown2 hgrow2 _
          rw [snoc_map] at hown2
          have hbel2 : Below B w' w2 := (hbel1.alloc hsz _).grown hgrow2 (by simp; omega) (fun k hk => (hown1.lt k hk).1)
          have hE2 : Hid ((cur ++ [m % 128 + 128]) ++ enc (m / 128) = xs ++ enc C) := by have := HE.out; rw [enc_go m hgt] at this; show _ = _; rw [← this]; simp
          clear hown1 hgrow2 hbel1 HE hcb hl6
          go_wp2
          go_roundw
          case rel => exact ⟨m / 128, cur ++ [m % 128 + 128], by omega, by omega, by go_num, by simpa using hown2, hbel2, hE2⟩
          case measure => simp [intOf]; omega
        · have hle : m ≤ 127 := by omega
          go_wp2_with (at_builtin; refine wpList_append_own _ rfl (.tmp 27) (.tmp 30) 22 rfl B 5 i0 (.int .u8 0) 1 1 Try.underlying22 hi hz0 hz1 hz2 rfl (by decide) _ _ _ rfl (hown1.alloc _) ⟨wr.heap.size, 0, none⟩ 1 1 [.int .u8 m] rfl rfl ?d1 ?d2 ?d3 ?d4 ?d5 ?_)
          case d2 => first | rfl | (intro u hu; simp at hu; subst hu; rfl)
          case d3 => unfold maxLen; omega
          case d4 => omega
          case d5 => first | omega | (simp; omega)
          intro v' w2 hown2 hgrow2 _
          rw [snoc_map] at hown2
          have hbel2 : Below B w' w2 := (hbel1.alloc hsz _).grown hgrow2 (by simp; omega) (fun k hk => (hown1.lt k hk).1)
          have hE2 : Hid (cur ++ [m] = xs ++ enc C) := by have := HE.out; rw [enc_end m hle] at this; exact this
          have hown3 : Hid (w2.ownsRow B 5 1 v' (xs ++ enc C).length ((xs ++ enc C).map (Value.int .u8))) := by rw [← hE2.out]; show w2.ownsRow _ _ _ _ _ _; simpa using hown2
          clear hown1 hgrow2 hbel1 HE hcb hl6 hE2 hown2
          go_wp2
          go_roundw
          case rel => exact .inr ⟨by go_num, hown3.out, hbel2⟩
          case measure => simp [intOf]
    · go_wp2
      go_ret
      exact ⟨_, rfl, hres, hbres⟩

end Go.Proofs.Ytbllnmafilabpaa

/- The law's own helpers that mark a row of bytes and ask whether the marks are held. -/
namespace Go.Proofs.Ytbllnmafilabpaa
open Go.RowKit

/-- The marks from 1 on of the first k bytes, behind them what was there. -/
def marked (xs : List Value) (k : Nat) : List Value := (List.range k).map (fun i : Nat => Value.int .u8 (((i : Int) + 1) % 256)) ++ xs.drop k

theorem marked_len (xs : List Value) (k : Nat) (h : k ≤ xs.length) : (marked xs k).length = xs.length := by simp [marked]; omega
theorem marked_step (xs : List Value) (k : Nat) (h : k < xs.length) : (marked xs k).set k (.int .u8 (((k : Int) + 1) % 256)) = marked xs (k + 1) := by
  unfold marked
  rw [List.set_append_right _ _ (by simp), List.length_map, List.length_range, Nat.sub_self, List.drop_eq_getElem_cons h, List.set_cons_zero, List.range_succ]
  simp

theorem marked_at (xs : List Value) (n j : Nat) (h : j < n) : (marked xs n)[j]? = some (.int .u8 (((j : Int) + 1) % 256)) := by
  unfold marked
  rw [List.getElem?_append_left (by simpa using h)]
  simp [h]

/-- What is owned stays owned where the block is as it was. -/
theorem own_same {w w' : World} {B g n c : Nat} {xs : List Value} (h : w.ownsRow B 5 1 (.slice (some ⟨g, 0, none⟩) n c) n xs) (hh : w'.heap[g]? = w.heap[g]?) : w'.ownsRow B 5 1 (.slice (some ⟨g, 0, none⟩) n c) n xs := by
  refine ⟨h.1, ?_⟩
  rcases h.2 with ⟨h', _⟩ | ⟨g', cap', cur, h', hb, hg, r⟩
  · simp at h'
  · simp only [Value.slice.injEq, Option.some.injEq, Addr.mk.injEq, and_true, true_and] at h'
    obtain ⟨rfl, rfl⟩ := h'
    exact .inr ⟨g, c, cur, rfl, hb, by rw [hh]; exact hg, r⟩

theorem own_below {w w' : World} {B g n c : Nat} {xs : List Value} (h : w.ownsRow B 5 1 (.slice (some ⟨g, 0, none⟩) n c) n xs) (hb : Below w.heap.size w w') : w'.ownsRow B 5 1 (.slice (some ⟨g, 0, none⟩) n c) n xs :=
  own_same h (hb.block g (own_lt h))

theorem own_grown {w w' : World} {B g k n c : Nat} {xs : List Value} (h : w.ownsRow B 5 1 (.slice (some ⟨g, 0, none⟩) n c) n xs) (hb : w.grownBy w' (some k)) (hne : g ≠ k) : w'.ownsRow B 5 1 (.slice (some ⟨g, 0, none⟩) n c) n xs :=
  own_same h (hb.block g (own_lt h) (by simpa using hne))

theorem own_drewN {w : World} {B n : Nat} {v : Value} {xs : List Value} (h : w.ownsRow B 5 1 v n xs) (q : Nat) : (w.drewN q).ownsRow B 5 1 v n xs := by
  induction q with
  | zero => exact h
  | succ q ih => exact ih.drew

/-- What is owned and is not empty lies at the head of a row. -/
theorem own_shape {w : World} {B n : Nat} {v : Value} {xs : List Value} (h : w.ownsRow B 5 1 v n xs) (hn : 0 < n) : ∃ g c, v = .slice (some ⟨g, 0, none⟩) n c ∧ B ≤ g := by
  rcases h.2 with ⟨_, h0⟩ | ⟨g, c, cur, h1, h2, _⟩
  · omega
  · exact ⟨g, c, h1, h2⟩

/-- A row of the call's own, as a slice that comes in. -/
theorem own_isRow {w : World} {B g n c : Nat} {xs : List Int} (h : w.ownsRow B 5 1 (.slice (some ⟨g, 0, none⟩) n n) n (xs.map (Value.int .u8))) (hr : ∀ x ∈ xs, 0 ≤ x ∧ x ≤ 255) (hc : c = n) (hm : n ≤ maxLen) : IsRow .u8 w (some ⟨g, 0, none⟩) n c xs := by
  subst hc
  have hl : xs.length = c := by have := h.1; simpa using this
  exact .inr ⟨_, rfl, Nat.le_refl _, hm, hl, fun i hi => by have := own_cells h i (by omega); rw [Addr.add_lit]; exact this, fun x hx => by have := hr x hx; exact WalkArith.wf_u8 (by omega)⟩

end Go.Proofs.Ytbllnmafilabpaa

/- What the model's putting of a number comes to: the same bytes as the program's. -/
namespace Go.Proofs.Ytbllnmafilabpaa
open Go.RowKit

theorem code_hi {n : Int} (h : 1000000000000 < n) : code n = 2000000000000 := by
  have : clamp n = 1000000000000 := by unfold clamp; rw [if_pos h]
  unfold code; rw [this]; rfl
theorem code_lo {n : Int} (h : n < -1000000000000) : code n = 1999999999999 := by
  have : clamp n = -1000000000000 := by unfold clamp; rw [if_neg (by omega), if_pos h]
  unfold code; rw [this]; rfl
theorem code_neg {n : Int} (h1 : -1000000000000 ≤ n) (h : n < 0) : code n = -2 * n - 1 := by
  have : clamp n = n := by unfold clamp; rw [if_neg (by omega), if_neg (by omega)]
  unfold code; rw [this, if_pos h]
theorem code_pos {n : Int} (h1 : n ≤ 1000000000000) (h : 0 ≤ n) : code n = 2 * n := by
  have : clamp n = n := by unfold clamp; rw [if_neg (by omega), if_neg (by omega)]
  unfold code; rw [this, if_neg (by omega)]

end Go.Proofs.Ytbllnmafilabpaa

/- What putting a text comes to, in the program and in the model: its size's groups, then its bytes. -/
namespace Go.Proofs.Ytbllnmafilabpaa
open Go.RowKit

/-- A text's bytes as numbers. -/
def nums (s : ByteArray) : List Int := s.data.toList.map fun b => (b.toNat : Int)

theorem nums_cells (s : ByteArray) : Lib.strCells s = (nums s).map (Value.int .u8) := by simp [Lib.strCells, nums]
theorem nums_length (s : ByteArray) : (nums s).length = s.size := by rw [nums, List.length_map, Array.length_toList]; rfl

/-- The bytes of a text behind its size. -/
def put (s : ByteArray) : List Int := enc (code s.size) ++ nums s

set_option maxHeartbeats 1000000 in
theorem appendTexts_one (v : Value) (xs : List Int) (B c0 o0 cc : Nat) (s : ByteArray) (w : World) (hown : w.ownsRow B 5 1 v xs.length (xs.map (Value.int .u8))) (hB : B ≤ w.heap.size)
    (hcell : w.cell? ⟨c0, o0, none⟩ = some (.string s)) (hn : xs.length ≤ 1073741824) (hs : s.size ≤ 1073741824) :
    Calls Try.prog 29 #[v, .slice (some ⟨c0, o0, none⟩) 1 cc] w fun e w' => ∃ v', e = .returned v' ∧
      w'.ownsRow B 5 1 v' (xs ++ put s).length ((xs ++ put s).map (Value.int .u8)) ∧ Below B w w' := by
  obtain ⟨i0, hi, hz0, hz1, hz2⟩ := info_parts Try.info5
  have hl6 := enc_len6 (code s.size) (by have := code_bd s.size; omega)
  go_enter Try.func29, Try.ntmps29
  go_wp2
  go_loopw [0, 9] (fun a i wr => (i = .int .i64 0 ∧ v = a ∧ w = wr) ∨ (i = .int .i64 1 ∧ wr.ownsRow B 5 1 a (xs ++ put s).length ((xs ++ put s).map (Value.int .u8)) ∧ Below B w wr)) (fun _ i _ => 1 - (intOf i).toNat)
  case atStart => exact .inl ⟨rfl, rfl, rfl⟩
  case round =>
    rcases hrel with ⟨rfl, rfl, rfl⟩ | ⟨rfl, hres, hbres⟩
    · go_wp2_with fail
      refine (appendNums_one v xs B w.heap.size 0 1 s.size _ (hown.alloc _) (by simp; omega) (by simp) hn (by omega) (by omega)).mono ?_
      rintro e w1 ⟨v1, rfl, hown1, hbel1⟩
      have hbel : Below B w w1 := ((Below.refl _ w).alloc hB _).trans hbel1
      have hsz := hbel.size
      have hl1 : (xs ++ enc (code s.size)).length ≤ 1073741824 + 6 := by rw [List.length_append]; omega
      obtain ⟨ys, hys⟩ : ∃ ys, xs ++ enc (code s.size) = ys := ⟨_, rfl⟩
      have HY : Hid (xs ++ put s = ys ++ nums s) := by rw [← hys]; show _ = _; rw [put, List.append_assoc]
      rw [hys] at hown1 hl1
      clear hys hown hbel1 hcell
      go_wp2_with (at_builtin; refine Lib.wpList_append_own_string _ rfl (.tmp 18) (.tmp 19) 22 9 rfl B 5 i0 Try.underlying22 Try.underlying9 hi hz0 hz1 hz2 _ _ _ rfl hown1 s rfl (by unfold maxLen; omega) (by omega) (by omega) ?_)
      intro v' w2 hown2 hgrow2 _
      have hbel2 : Below B w w2 := hbel.grown hgrow2 (by omega) (fun k hk => (hown1.lt k hk).1)
      have hown3 : Hid (w2.ownsRow B 5 1 v' (xs ++ put s).length ((xs ++ put s).map (Value.int .u8))) := by
        rw [HY.out, List.length_append, List.map_append, ← nums_cells, nums_length]; exact hown2
      clear hown1 hgrow2 hbel HY hown2
      go_wp2
      go_roundw
      case rel => exact .inr ⟨by go_num, hown3.out, hbel2⟩
      case measure => simp [intOf]
    · go_wp2
      go_ret
      exact ⟨_, rfl, hres, hbres⟩

end Go.Proofs.Ytbllnmafilabpaa

/- Plain facts: what is put comes back; cut by its last byte it does not. -/
namespace Go.Proofs.Ytbllnmafilabpaa
open Go.RowKit

theorem at_of_drop {Z R : List Int} {j : Nat} {x : Int} (h : Z.drop j = x :: R) : j < Z.length ∧ Z[j]?.getD 0 = x ∧ Z.drop (j + 1) = R := by
  have hl : j < Z.length := by
    have := congrArg List.length h
    simp at this; omega
  rw [List.drop_eq_getElem_cons hl] at h
  simp only [List.cons.injEq] at h
  exact ⟨hl, by rw [List.getElem?_eq_getElem hl, Option.getD_some]; exact h.1, h.2⟩

/-- Reading off the groups of a code. -/
theorem scan_enc (Z R : List Int) (a : Nat) : ∀ (f k : Nat) (c : Int), 0 ≤ c → (0 < k → 0 < c) → (enc c).length ≤ f → Z.drop (a + k) = enc c ++ R →
    scan Z a f k = (grp Z a k + c * 2 ^ (7 * k), ((a + k + (enc c).length : Nat) : Int), true) := by
  intro f
  induction f with
  | zero => intro k c _ _ hf _; have := enc_len_pos c; omega
  | succ f ih =>
    intro k c h0 hk hf hd
    by_cases h : 127 < c
    · have he := enc_go c h
      rw [he] at hd hf
      obtain ⟨hl, hx, hr⟩ := at_of_drop (R := enc (c / 128) ++ R) (x := c % 128 + 128) (by simpa using hd)
      rw [scan, if_pos hl, hx, if_pos (by omega), ih (k + 1) (c / 128) (by omega) (by omega) (by simpa using hf) hr, he]
      have hp : (2 : Int) ^ (7 * (k + 1)) = 2 ^ (7 * k) * 128 := pow_succ7 k
      have hg : grp Z a (k + 1) = grp Z a k + (c % 128 + 128) % 128 * 2 ^ (7 * k) := by show grp Z a k + _ = _; rw [hx]
      rw [hg, hp]
      simp only [Prod.mk.injEq, List.length_cons, and_true]
      refine ⟨?_, by omega⟩
      have e1 : (c % 128 + 128) % 128 = c % 128 := by omega
      have e2 : c / 128 * (2 ^ (7 * k) * 128) = (c / 128 * 128) * 2 ^ (7 * k) := by rw [Int.mul_comm (2 ^ (7 * k)) 128, Int.mul_assoc]
      rw [e1, e2, Int.add_assoc, ← Int.add_mul]
      congr 2
      omega
    · have he := enc_end c (by omega)
      rw [he] at hd
      obtain ⟨hl, hx, hr⟩ := at_of_drop (R := R) (x := c) (by simpa using hd)
      rw [scan, if_pos hl, hx, if_neg h, if_neg (by omega), he]
      have hg : grp Z a (k + 1) = grp Z a k + c % 128 * 2 ^ (7 * k) := by show grp Z a k + _ = _; rw [hx]
      rw [hg, Int.emod_eq_of_lt h0 (by omega)]
      rfl

theorem scan_cut (Z : List Int) (a : Nat) : ∀ (f k : Nat) (c : Int), Z.drop (a + k) = (enc c).dropLast → (scan Z a f k).2.2 = false := by
  intro f
  induction f with
  | zero => intro k c _; rfl
  | succ f ih =>
    intro k c hd
    by_cases h : 127 < c
    · have he := enc_go c h
      have hne : enc (c / 128) ≠ [] := fun e => by have := enc_len_pos (c / 128); rw [e] at this; simp at this
      rw [he, List.dropLast_cons_of_ne_nil hne] at hd
      obtain ⟨hl, hx, hr⟩ := at_of_drop hd
      rw [scan, if_pos hl, hx, if_pos (by omega)]
      exact ih (k + 1) (c / 128) hr
    · rw [enc_end c (by omega)] at hd
      have : Z.length ≤ a + k := by have := congrArg List.length hd; simp at this; omega
      rw [scan, if_neg (by omega)]

theorem dec_code (N : Int) : dec (code N) = clamp N := by
  have := clamp_bd N
  unfold dec code
  split
  · rw [if_pos (by omega)]; omega
  · rw [if_neg (by omega)]; omega

/-- A number comes back. -/
theorem getNum_put (xs R : List Int) (N : Int) : getNum (xs ++ enc (code N) ++ R) xs.length = (clamp N, ((xs.length + (enc (code N)).length : Nat) : Int), true) := by
  have hc := code_bd N
  have hp := enc_len_pos (code N)
  have h6 := enc_len6 (code N) (by omega)
  unfold getNum
  rw [if_pos ⟨by omega, by simp; omega⟩, Int.toNat_natCast, scan_enc (xs ++ enc (code N) ++ R) R xs.length 6 0 (code N) hc.1 (by omega) h6 (by simp)]
  have e : grp (xs ++ enc (code N) ++ R) xs.length 0 + code N * 2 ^ (7 * 0) = code N := by simp [grp]
  rw [e]
  unfold fin
  rw [if_pos ⟨rfl, hc.2⟩, dec_code]
  rfl

/-- Cut by its last byte it does not. -/
theorem getNum_cut (xs : List Int) (N : Int) : (getNum ((xs ++ enc (code N)).dropLast) xs.length).2.2 = false := by
  have hne : enc (code N) ≠ [] := fun e => by have := enc_len_pos (code N); rw [e] at this; simp at this
  unfold getNum
  split
  · rw [Int.toNat_natCast]
    have := scan_cut ((xs ++ enc (code N)).dropLast) xs.length 6 0 (code N) (by rw [List.dropLast_append_of_ne_nil hne]; simp)
    unfold fin
    rw [if_neg (by rw [this]; simp)]
  · rfl

theorem strOfNums_nums (s : ByteArray) : strOfNums (nums s) = s := by
  have h : ((nums s).map fun n => UInt8.ofNat n.toNat) = s.data.toList := by
    rw [nums, List.map_map]
    conv => rhs; rw [← List.map_id s.data.toList]
    apply List.map_congr_left
    intro b _
    simp
  unfold strOfNums
  rw [h]

/-- A text comes back. -/
theorem getText_put (xs : List Int) (s : ByteArray) (hs : s.size ≤ 1000000000000) : getText (xs ++ put s) xs.length = (nums s, ((xs ++ put s).length : Int), true) := by
  have hn := getNum_put xs (nums s) s.size
  have hcl : clamp s.size = s.size := by unfold clamp; rw [if_neg (by omega), if_neg (by omega)]
  rw [hcl] at hn
  have e : xs ++ put s = xs ++ enc (code s.size) ++ nums s := by rw [put, List.append_assoc]
  have hl := nums_length s
  unfold getText
  rw [e, hn]
  simp only [Int.toNat_natCast]
  rw [if_pos ⟨trivial, by omega, by simp; omega⟩]
  have ed : (xs ++ enc (code s.size) ++ nums s).drop (xs.length + (enc (code s.size)).length) = nums s := by
    rw [← List.length_append, List.drop_left]
  rw [ed, List.take_of_length_le (by omega)]
  simp [hl]
  omega

end Go.Proofs.Ytbllnmafilabpaa

/- What a draw of a number or of a text comes to: bytes in new memory, and a number or a text of few bytes; nothing old is written. -/
namespace Go.Proofs.Ytbllnmafilabpaa
open Go.RowKit

theorem own_weaken {w : World} {B B' n : Nat} {v : Value} {xs : List Value} (h : w.ownsRow B 5 1 v n xs) (hb : B' ≤ B) : w.ownsRow B' 5 1 v n xs := by
  refine ⟨h.1, ?_⟩
  rcases h.2 with h2 | ⟨g, cap, cur, h1, h2, r⟩
  · exact .inl h2
  · exact .inr ⟨g, cap, cur, h1, Nat.le_trans hb h2, r⟩

/-- The numbers of which one is drawn. -/
def nums14 (y : Int) : List Int := [0, 1, -1, 63, 64, -64, -65, 8192, 1000000000000, -1000000000000, 1000000000001, -9223372036854775808, 9223372036854775807, y]
theorem nums14_bd (y : Int) (h0 : 0 ≤ y) (h1 : y < 100000) : ∀ N ∈ nums14 y, -9223372036854775808 ≤ N ∧ N ≤ 9223372036854775807 := by
  intro N hN
  simp only [nums14, List.mem_cons, List.not_mem_nil, or_false] at hN
  omega

end Go.Proofs.Ytbllnmafilabpaa

/- What a draw of bytes and a text comes to: both of few bytes, in new memory; nothing old is written. -/
namespace Go.Proofs.Ytbllnmafilabpaa
open Go.RowKit

theorem own_convert {w : World} {B g n c : Nat} {xs : List Int} (h : w.ownsRow B 5 1 (.slice (some ⟨g, 0, none⟩) n c) n (xs.map (Value.int .u8))) :
    (convert 22 9 (.slice (some ⟨g, 0, none⟩) n c)).run Try.prog w = .ok (.string (strOfNums xs)) w :=
  run_convert_bytes_arg w 22 5 Try.underlying22 Try.underlying5 g 0 n c xs (by have := h.1; simpa using this) (own_cells h) 9 Try.underlying9

end Go.Proofs.Ytbllnmafilabpaa

/- Small helpers of the law: whether its bytes are too many. -/
namespace Go.Proofs.Ytbllnmafilabpaa
open Go.RowKit

theorem range_of_mem {xs : List Int} (h : ∀ x ∈ xs, 0 ≤ x ∧ x ≤ 255) (j : Nat) : 0 ≤ xs[j]?.getD 0 ∧ xs[j]?.getD 0 ≤ 255 := by
  by_cases hj : j < xs.length
  · rw [List.getElem?_eq_getElem hj, Option.getD_some]; exact h _ (List.getElem_mem hj)
  · rw [List.getElem?_eq_none (by omega)]; simp

theorem nums_byte (s : ByteArray) : ∀ x ∈ nums s, 0 ≤ x ∧ x ≤ 255 := by
  intro x hx
  obtain ⟨b, _, rfl⟩ := List.mem_map.1 hx
  have := b.toNat_lt
  omega

theorem mem_app {xs ys : List Int} (h1 : ∀ x ∈ xs, 0 ≤ x ∧ x ≤ 255) (h2 : ∀ x ∈ ys, 0 ≤ x ∧ x ≤ 255) : ∀ x ∈ xs ++ ys, 0 ≤ x ∧ x ≤ 255 := fun x hx => by
  rcases List.mem_append.1 hx with h | h
  · exact h1 x h
  · exact h2 x h

/-- Reading a number behind the bytes: what the law asks of it. -/
theorem getNum_here (b off n cap : Nat) (p : Int) (zs : List Int) (w : World) (hz : zs.length = n) (hm : n ≤ 4611686018427387904)
    (hc : ∀ i, i < n → w.cell? ⟨b, off + i, none⟩ = some (.int .u8 (zs.getD i 0))) (hr : ∀ x ∈ zs, 0 ≤ x ∧ x ≤ 255) (r : Int × Int × Bool) (hg : getNum zs p = r) :
    Calls Try.prog 61 #[.slice (some ⟨b, off, none⟩) n cap, .int .i64 p] w fun e w' => e = .returned (.tuple #[.int .i64 r.1, .int .i64 r.2.1, .bool r.2.2]) ∧ w = w' := by
  refine (implGetNum_any b off n cap p zs w hz hm hc (range_of_mem hr)).mono ?_
  rintro e w' ⟨rfl, rfl⟩
  exact ⟨by rw [hg]; rfl, rfl⟩

theorem getText_here (b off n cap : Nat) (p : Int) (zs : List Int) (w : World) (hz : zs.length = n) (hm : n ≤ 1099511627776) (hcap : n ≤ cap) (hcm : cap ≤ 9223372036854775807)
    (hc : ∀ i, i < n → w.cell? ⟨b, off + i, none⟩ = some (.int .u8 (zs.getD i 0))) (hr : ∀ x ∈ zs, 0 ≤ x ∧ x ≤ 255) (s : ByteArray) (x : Int) (ok : Bool) (hg : getText zs p = (nums s, x, ok)) :
    Calls Try.prog 62 #[.slice (some ⟨b, off, none⟩) n cap, .int .i64 p] w fun e w' => e = .returned (.tuple #[.string s, .int .i64 x, .bool ok]) ∧ w = w' := by
  refine (implGetText_any b off n cap p zs w hz hm hcap hcm hc (range_of_mem hr)).mono ?_
  rintro e w' ⟨rfl, rfl⟩
  exact ⟨by rw [hg, threeT, strOfNums_nums], rfl⟩

theorem own_cap {w : World} {B g n c : Nat} {xs : List Value} (h : w.ownsRow B 5 1 (.slice (some ⟨g, 0, none⟩) n c) n xs) : n ≤ c ∧ c ≤ maxLen := by
  rcases h.2 with ⟨h', _⟩ | ⟨g', cap', cur, h', _, _, h1, h2, _⟩
  · simp at h'
  · simp only [Value.slice.injEq, Option.some.injEq, Addr.mk.injEq, and_true, true_and] at h'
    obtain ⟨rfl, rfl⟩ := h'
    exact ⟨h1, h2⟩

theorem cut_cells {w : World} {g n : Nat} {zs : List Int} (hz : zs.length = n + 1) (hc : ∀ i, i < n + 1 → w.cell? ⟨g, 0 + i, none⟩ = some (.int .u8 (zs.getD i 0))) : ∀ i, i < n → w.cell? ⟨g, 0 + i, none⟩ = some (.int .u8 (zs.dropLast.getD i 0)) := by
  intro i hi
  rw [hc i (by omega)]
  simp [hz, hi]
  rw [List.getElem?_eq_getElem (by omega), Option.getD_some]


theorem hn_len (xs ys : List Int) (N : Int) (n M : Nat) (hys : xs ++ enc (code N) = ys) (hn : xs.length = n) (hM : ys.length = M + 1) : ((n + (enc (code N)).length : Nat) : Int) = (M : Int) + 1 := by
  rw [← hys, List.length_append, hn] at hM
  omega

theorem clamp_ways (N : Int) : (clamp N = 1000000000000 ∧ 1000000000000 < N) ∨ (clamp N = -1000000000000 ∧ N < -1000000000000) ∨ (clamp N = N ∧ N ≤ 1000000000000 ∧ -1000000000000 ≤ N) := by
  unfold clamp
  split
  · exact .inl ⟨rfl, by assumption⟩
  · split
    · exact .inr (.inl ⟨rfl, by assumption⟩)
    · exact .inr (.inr ⟨rfl, by omega, by omega⟩)

end Go.Proofs.Ytbllnmafilabpaa
