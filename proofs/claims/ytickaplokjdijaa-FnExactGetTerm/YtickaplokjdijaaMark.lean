/- The law's own helpers that mark a row of bytes and ask whether the marks are held. -/
import Derived.Test.YtickaplokjdijaaApp
namespace Go.Proofs.Ytickaplokjdijaa
open Go.RowKit

/-- The marks from 1 on of the first k bytes, behind them what was there. -/
def marked (xs : List Value) (k : Nat) : List Value := (List.range k).map (fun i : Nat => Value.int .u8 (((i : Int) + 1) % 256)) ++ xs.drop k

theorem marked_len (xs : List Value) (k : Nat) (h : k ≤ xs.length) : (marked xs k).length = xs.length := by simp [marked]; omega
theorem marked_step (xs : List Value) (k : Nat) (h : k < xs.length) : (marked xs k).set k (.int .u8 (((k : Int) + 1) % 256)) = marked xs (k + 1) := by
  unfold marked
  rw [List.set_append_right _ _ (by simp), List.length_map, List.length_range, Nat.sub_self, List.drop_eq_getElem_cons h, List.set_cons_zero, List.range_succ]
  simp

theorem marked_at (xs : List Value) (n j : Nat) (h : j < n) : (marked xs n)[j]? = some (.int .u8 (((j : Int) + 1) % 256)) := by
  unfold marked
  rw [List.getElem?_append_left (by simpa using h)]
  simp [h]

/-- What is owned stays owned where the block is as it was. -/
theorem own_same {w w' : World} {B g n c : Nat} {xs : List Value} (h : w.ownsRow B 5 1 (.slice (some ⟨g, 0, none⟩) n c) n xs) (hh : w'.heap[g]? = w.heap[g]?) : w'.ownsRow B 5 1 (.slice (some ⟨g, 0, none⟩) n c) n xs := by
  refine ⟨h.1, ?_⟩
  rcases h.2 with ⟨h', _⟩ | ⟨g', cap', cur, h', hb, hg, r⟩
  · simp at h'
  · simp only [Value.slice.injEq, Option.some.injEq, Addr.mk.injEq, and_true, true_and] at h'
    obtain ⟨rfl, rfl⟩ := h'
    exact .inr ⟨g, c, cur, rfl, hb, by rw [hh]; exact hg, r⟩

theorem own_below {w w' : World} {B g n c : Nat} {xs : List Value} (h : w.ownsRow B 5 1 (.slice (some ⟨g, 0, none⟩) n c) n xs) (hb : Below w.heap.size w w') : w'.ownsRow B 5 1 (.slice (some ⟨g, 0, none⟩) n c) n xs :=
  own_same h (hb.block g (own_lt h))

theorem own_grown {w w' : World} {B g k n c : Nat} {xs : List Value} (h : w.ownsRow B 5 1 (.slice (some ⟨g, 0, none⟩) n c) n xs) (hb : w.grownBy w' (some k)) (hne : g ≠ k) : w'.ownsRow B 5 1 (.slice (some ⟨g, 0, none⟩) n c) n xs :=
  own_same h (hb.block g (own_lt h) (by simpa using hne))

theorem own_drewN {w : World} {B n : Nat} {v : Value} {xs : List Value} (h : w.ownsRow B 5 1 v n xs) (q : Nat) : (w.drewN q).ownsRow B 5 1 v n xs := by
  induction q with
  | zero => exact h
  | succ q ih => exact ih.drew

/-- What is owned and is not empty lies at the head of a row. -/
theorem own_shape {w : World} {B n : Nat} {v : Value} {xs : List Value} (h : w.ownsRow B 5 1 v n xs) (hn : 0 < n) : ∃ g c, v = .slice (some ⟨g, 0, none⟩) n c ∧ B ≤ g := by
  rcases h.2 with ⟨_, h0⟩ | ⟨g, c, cur, h1, h2, _⟩
  · omega
  · exact ⟨g, c, h1, h2⟩

/-- A row of the call's own, as a slice that comes in. -/
theorem own_isRow {w : World} {B g n c : Nat} {xs : List Int} (h : w.ownsRow B 5 1 (.slice (some ⟨g, 0, none⟩) n n) n (xs.map (Value.int .u8))) (hr : ∀ x ∈ xs, 0 ≤ x ∧ x ≤ 255) (hc : c = n) (hm : n ≤ maxLen) : IsRow .u8 w (some ⟨g, 0, none⟩) n c xs := by
  subst hc
  have hl : xs.length = c := by have := h.1; simpa using this
  exact .inr ⟨_, rfl, Nat.le_refl _, hm, hl, fun i hi => by have := own_cells h i (by omega); rw [Addr.add_lit]; exact this, fun x hx => by have := hr x hx; exact WalkArith.wf_u8 (by omega)⟩

set_option maxHeartbeats 400000 in
theorem markByteS_any (B g n c : Nat) (xs : List Value) (w : World) (hown : w.ownsRow B 5 1 (.slice (some ⟨g, 0, none⟩) n c) n xs) (hm : n ≤ 1099511627776) :
    Calls Try.prog 46 #[.slice (some ⟨g, 0, none⟩) n c, .int .i64 1] w fun e w' => e = .returned (.int .i64 ((n : Int) + 1)) ∧
      w'.ownsRow B 5 1 (.slice (some ⟨g, 0, none⟩) n c) n (marked xs n) ∧ w.grownBy w' (some g) := by
  have hxl : xs.length = n := by have := hown.1; omega
  have HL : Hid (xs.length = n) := hxl
  clear hxl
  go_enter Try.func46, Try.ntmps46
  go_wp2
  go_loopw [1, 5] (fun k i wr => ∃ j : Nat, j ≤ n ∧ i = .int .i64 j ∧ k = .int .i64 ((j : Int) + 1) ∧ wr.ownsRow B 5 1 (.slice (some ⟨g, 0, none⟩) n c) n (marked xs j) ∧ w.grownBy wr (some g)) (fun _ i _ => n - (intOf i).toNat)
  case atStart => exact ⟨0, Nat.zero_le _, rfl, rfl, hown, World.grownBy.refl _ _⟩
  case round =>
    obtain ⟨j, hj, rfl, rfl, hown1, hgr1⟩ := hrel
    by_cases hlt : j < n
    · have hfz : wr.frozen? ⟨g, j, none⟩ = false := hown1.frozenAt j
      obtain ⟨v0, hv0⟩ : ∃ v, wr.cell? ⟨g, j, none⟩ = some v := by
        rw [hown1.cellAt j (by omega)]; exact ⟨_, List.getElem?_eq_getElem (by rw [marked_len xs j (by have := HL.out; omega), HL.out]; exact hlt)⟩
      have hst := hown1.stored j (.int .u8 (((j : Int) + 1) % 256))
      rw [marked_step xs j (by have := HL.out; omega)] at hst
      have hgr2 : w.grownBy (wr.setCell ⟨g, j, none⟩ (.int .u8 (((j : Int) + 1) % 256))) (some g) := ⟨hst.2.os.trans hgr1.os, hst.2.tape.trans hgr1.tape, hst.2.output.trans hgr1.output, Nat.le_trans hgr1.size hst.2.size, fun k hk hne => (hst.2.block k (Nat.lt_of_lt_of_le hk hgr1.size) hne).trans (hgr1.block k hk hne)⟩
      have hst1 := hst.1
      clear hst
      go_wp2
      go_roundw
      case rel => exact ⟨j + 1, by omega, by go_num, by go_num, hst1, hgr2⟩
      case measure => simp [intOf]; omega
    · have hjn : j = n := by omega
      subst hjn
      go_wp2
      go_ret
      exact ⟨rfl, hown1, hgr1⟩

set_option maxHeartbeats 400000 in
theorem heldByteS_any (B g n c : Nat) (xs : List Value) (w : World) (hown : w.ownsRow B 5 1 (.slice (some ⟨g, 0, none⟩) n c) n (marked xs n)) (hm : n ≤ 1099511627776) :
    Calls Try.prog 47 #[.slice (some ⟨g, 0, none⟩) n c, .int .i64 1] w fun e w' => e = .returned (.int .i64 ((n : Int) + 1)) ∧ w' = w := by
  have hc : ∀ j, j < n → w.cell? ⟨g, j, none⟩ = some (.int .u8 (((j : Int) + 1) % 256)) := fun j hj => by rw [hown.cellAt j (by omega), marked_at xs n j hj]
  clear hown
  go_enter Try.func47, Try.ntmps47
  go_wp2
  go_loop [1, 5] (fun k i => ∃ j : Nat, j ≤ n ∧ i = .int .i64 j ∧ k = .int .i64 ((j : Int) + 1)) (fun _ i => n - (intOf i).toNat)
  case atStart => exact ⟨0, Nat.zero_le _, rfl, rfl⟩
  case round =>
    obtain ⟨j, hj, rfl, rfl⟩ := hrel
    by_cases hlt : j < n
    · have hcj := hc j hlt
      clear hc
      go_wp2
      go_round
      case rel => exact ⟨j + 1, by omega, by go_num, by go_num⟩
      case measure => simp [intOf]; omega
    · have hjn : j = n := by omega
      subst hjn
      go_wp2
      go_ret
      exact ⟨rfl, rfl⟩

/-- 'eqByteS_same' at two rows of the call's own. -/
theorem eqByteS_below (B1 B2 g1 c1 g2 c2 n : Nat) (xs : List Int) (w : World) (h1 : w.ownsRow B1 5 1 (.slice (some ⟨g1, 0, none⟩) n c1) n (xs.map (Value.int .u8))) (h2 : w.ownsRow B2 5 1 (.slice (some ⟨g2, 0, none⟩) n c2) n (xs.map (Value.int .u8))) (hm : n ≤ 4611686018427387904) :
    Calls Try.prog 44 #[.slice (some ⟨g1, 0, none⟩) n c1, .slice (some ⟨g2, 0, none⟩) n c2] w fun e w' => e = .returned (.bool true) ∧ Below w.heap.size w w' := by
  refine (eqByteS_same g1 0 c1 g2 0 c2 n xs w hm (own_cells h1) (own_cells h2)).mono ?_
  rintro e w' ⟨rfl, q, rfl⟩
  exact ⟨rfl, below_drewN (Below.refl _ _) q⟩

end Go.Proofs.Ytickaplokjdijaa
