/- The cursor of a draw: what its reading of a byte, a number below another, an element of a list and a row of bytes keep; of what is drawn only that it is in its range. -/
import Derived.Test.YtkfpfijblflcfaaEq
namespace Go.Proofs.Ytkfpfijblflcfaa
open Go.RowKit

/-- A cursor lies in block p: the bytes of the draw, the place, the mix. -/
def Cur (w : World) (p : Nat) (a : Option Addr) (len cap : Nat) : Prop :=
  ∃ (i : Nat) (h : Int), i ≤ len ∧ w.heap[p]? = some (.cells #[.slice a len cap, .int .i64 i, .int .i64 h] 66 (0, 0))

theorem and255 (n : Int) : 0 ≤ bits .and .i64 n 255 ∧ bits .and .i64 n 255 ≤ 255 := by
  have h1 : (BitVec.ofInt 64 255).toNat = 2 ^ 8 - 1 := by decide
  have key : (BitVec.ofInt 64 n &&& BitVec.ofInt 64 255).toNat = (n % ((2 ^ 64 : Nat) : Int)).toNat % 2 ^ 8 := by
    rw [BitVec.toNat_and, BitVec.toNat_ofInt, h1, Nat.and_two_pow_sub_one_eq_mod]
  have e : bits .and .i64 n 255 = IntKind.i64.wrap ((BitVec.ofInt 64 n &&& BitVec.ofInt 64 255).toNat : Nat) := rfl
  rw [e, key, IntKind.wrap_i64]
  omega

theorem grownBy_trans {w w1 w2 : World} {r : Option Nat} (h : w.grownBy w1 r) (k : w1.grownBy w2 r) : w.grownBy w2 r :=
  ⟨k.os.trans h.os, k.tape.trans h.tape, k.output.trans h.output, Nat.le_trans h.size k.size, fun j hj hne => (k.block j (Nat.lt_of_lt_of_le hj h.size) hne).trans (h.block j hj hne)⟩

theorem grownBy_setCell (w : World) (p j : Nat) (u : Value) : w.grownBy (w.setCell ⟨p, j, none⟩ u) (some p) :=
  ⟨rfl, rfl, rfl, by simp, fun k _ hk => heap_setCell_other w ⟨p, j, none⟩ k u (fun e => hk (by simp [e]))⟩

theorem grownBy_drewN {w w1 : World} {r : Option Nat} (h : w.grownBy w1 r) (q : Nat) : w.grownBy (w1.drewN q) r := by
  induction q with
  | zero => exact h
  | succ q ih => exact ⟨ih.os, ih.tape, ih.output, ih.size, ih.block⟩

theorem heap_drewN (w : World) (q : Nat) : (w.drewN q).heap = w.heap := by
  induction q with
  | zero => rfl
  | succ q ih => exact ih

theorem cur_done {w : World} {p len cap i : Nat} {a : Option Addr} {h : Int} (hh : w.heap[p]? = some (.cells #[.slice a len cap, .int .i64 i, .int .i64 h] 66 (0, 0))) (hi : i < len) (v : Int) (q : Nat) :
    Cur (((w.setCell ⟨p, 2, none⟩ (.int .i64 v)).drewN q).setCell ⟨p, 1, none⟩ (.int .i64 ((i : Int) + 1))) p a len cap ∧
      w.grownBy (((w.setCell ⟨p, 2, none⟩ (.int .i64 v)).drewN q).setCell ⟨p, 1, none⟩ (.int .i64 ((i : Int) + 1))) (some p) := by
  have h1 := heap_setCell_same w p 2 _ _ (.int .i64 v) hh
  have h2 : ((w.setCell ⟨p, 2, none⟩ (.int .i64 v)).drewN q).heap[p]? = some (.cells #[.slice a len cap, .int .i64 i, .int .i64 v] 66 (0, 0)) := by rw [heap_drewN, h1]; rfl
  have h3 := heap_setCell_same _ p 1 _ _ (.int .i64 ((i : Int) + 1)) h2
  exact ⟨⟨i + 1, v, by omega, by rw [h3]; rfl⟩, grownBy_trans (grownBy_drewN (grownBy_setCell w p 2 _) q) (grownBy_setCell _ p 1 _)⟩

theorem cur_same {w : World} {p len cap i : Nat} {a : Option Addr} {h : Int} (hh : w.heap[p]? = some (.cells #[.slice a len cap, .int .i64 i, .int .i64 h] 66 (0, 0))) (hi : i ≤ len) (v : Int) (q r : Nat) :
    Cur (((w.setCell ⟨p, 2, none⟩ (.int .i64 v)).drewN q).drewN r) p a len cap ∧ w.grownBy (((w.setCell ⟨p, 2, none⟩ (.int .i64 v)).drewN q).drewN r) (some p) := by
  have h1 := heap_setCell_same w p 2 _ _ (.int .i64 v) hh
  have h2 : (((w.setCell ⟨p, 2, none⟩ (.int .i64 v)).drewN q).drewN r).heap[p]? = some (.cells #[.slice a len cap, .int .i64 i, .int .i64 v] 66 (0, 0)) := by rw [heap_drewN, heap_drewN, h1]; rfl
  exact ⟨⟨i, v, hi, h2⟩, grownBy_drewN (grownBy_drewN (grownBy_setCell w p 2 _) q) r⟩

set_option maxHeartbeats 400000 in
theorem l1Byte_in (p b off len cap i : Nat) (h x : Int) (w : World) (hh : w.heap[p]? = some (.cells #[.slice (some ⟨b, off, none⟩) len cap, .int .i64 i, .int .i64 h] 66 (0, 0)))
    (hi : i < len) (hm : len ≤ 4611686018427387904) (hx : w.cell? ⟨b, off + i, none⟩ = some (.int .u8 x)) (hne : b ≠ p) :
    Calls Try.prog 43 #[.pointer (some ⟨p, 0, none⟩)] w fun e w' => ∃ y : Int, 0 ≤ y ∧ y ≤ 255 ∧ e = .returned (.int .i64 y) ∧ Cur w' p (some ⟨b, off, none⟩) len cap ∧ w.grownBy w' (some p) := by
  have c0 : w.cell? ⟨p, 0, none⟩ = some (.slice (some ⟨b, off, none⟩) len cap) := by rw [cell_of_row w p 0 _ _ _ hh]; rfl
  have c1 : w.cell? ⟨p, 1, none⟩ = some (.int .i64 i) := by rw [cell_of_row w p 1 _ _ _ hh]; rfl
  have c2 : w.cell? ⟨p, 2, none⟩ = some (.int .i64 h) := by rw [cell_of_row w p 2 _ _ _ hh]; rfl
  have f1 : w.frozen? ⟨p, 1, none⟩ = false := frozen_of_row w p 1 _ _ hh
  have f2 : w.frozen? ⟨p, 2, none⟩ = false := frozen_of_row w p 2 _ _ hh
  have HH : Hid (w.heap[p]? = some (.cells #[.slice (some ⟨b, off, none⟩) len cap, .int .i64 i, .int .i64 h] 66 (0, 0))) := hh
  clear hh
  have hil : (i : Int) < (len : Int) := by omega
  go_enter Try.func43, Try.ntmps43
  go_wp2
  go_quiet (fail)
  go_wp2
  go_quiet (fail)
  go_wp2
  go_quiet (fail)
  go_wp2
  go_ret
  refine ⟨_, ?_, ?_, rfl, (cur_done HH.out hi _ _).1, (cur_done HH.out hi _ _).2⟩
  · exact (and255 _).1
  · exact (and255 _).2

set_option maxHeartbeats 400000 in
theorem l1Byte_out (p len cap i : Nat) (a : Option Addr) (h : Int) (w : World) (hh : w.heap[p]? = some (.cells #[.slice a len cap, .int .i64 i, .int .i64 h] 66 (0, 0))) (hi : i = len) (hm : len ≤ 4611686018427387904) :
    Calls Try.prog 43 #[.pointer (some ⟨p, 0, none⟩)] w fun e w' => ∃ y : Int, 0 ≤ y ∧ y ≤ 255 ∧ e = .returned (.int .i64 y) ∧ Cur w' p a len cap ∧ w.grownBy w' (some p) := by
  subst hi
  have c0 : w.cell? ⟨p, 0, none⟩ = some (.slice a i cap) := by rw [cell_of_row w p 0 _ _ _ hh]; rfl
  have c1 : w.cell? ⟨p, 1, none⟩ = some (.int .i64 i) := by rw [cell_of_row w p 1 _ _ _ hh]; rfl
  have c2 : w.cell? ⟨p, 2, none⟩ = some (.int .i64 h) := by rw [cell_of_row w p 2 _ _ _ hh]; rfl
  have f2 : w.frozen? ⟨p, 2, none⟩ = false := frozen_of_row w p 2 _ _ hh
  have HH : Hid (w.heap[p]? = some (.cells #[.slice a i cap, .int .i64 i, .int .i64 h] 66 (0, 0))) := hh
  clear hh
  go_enter Try.func43, Try.ntmps43
  go_wp2
  go_quiet (fail)
  go_wp2
  go_quiet (fail)
  go_wp2
  go_ret
  refine ⟨_, ?_, ?_, rfl, (cur_same HH.out (Nat.le_refl _) _ _ _).1, (cur_same HH.out (Nat.le_refl _) _ _ _).2⟩
  · exact (and255 _).1
  · exact (and255 _).2

theorem IsRow.grown {k : IntKind} {w w' : World} {a : Option Addr} {len cap p : Nat} {zs : List Int} (h : IsRow k w a len cap zs) (hg : w.grownBy w' (some p)) (hne : ∀ x, a = some x → 0 < cap → x.block ≠ p) : IsRow k w' a len cap zs := by
  rcases h with h | ⟨x, h1, h2, h3, h4, h5, h6⟩
  · exact .inl h
  · refine .inr ⟨x, h1, h2, h3, h4, fun i hi => ?_, h6⟩
    have hb : (x.add i).block = x.block := by unfold Addr.add; split <;> rfl
    have hlt := World.block_lt_of_cell? _ _ (h5 i hi)
    rw [World.cell?_of_block (w := w) (hg.block _ hlt (by rw [hb]; simpa using hne x h1 (by omega)))]
    exact h5 i hi

theorem l1Byte_any (p len cap : Nat) (a : Option Addr) (zs : List Int) (w : World) (hc : Cur w p a len cap) (hr : IsRow .u8 w a len cap zs) (hne : ∀ x, a = some x → 0 < cap → x.block ≠ p) (hm : len ≤ 4611686018427387904) :
    Calls Try.prog 43 #[.pointer (some ⟨p, 0, none⟩)] w fun e w' => ∃ y : Int, 0 ≤ y ∧ y ≤ 255 ∧ e = .returned (.int .i64 y) ∧ Cur w' p a len cap ∧ w.grownBy w' (some p) := by
  obtain ⟨i, h, hi, hh⟩ := hc
  by_cases hlt : i < len
  · rcases hr with ⟨_, h1, _⟩ | ⟨⟨b, off, spot⟩, rfl, hl, _, hz, hcl, _⟩
    · omega
    · have hc0 := hcl 0 (by omega)
      have hspot : spot = none := by simpa [Addr.add] using World.cell?_spot hc0
      subst hspot
      have hci := hcl i (by omega)
      rw [Addr.add_lit] at hci
      exact l1Byte_in p b off len cap i h _ w hh hlt hm hci (hne _ rfl (by omega))
  · exact l1Byte_out p len cap i a h w hh (by omega) hm

set_option maxHeartbeats 400000 in
theorem l1Below_any (p len cap : Nat) (a : Option Addr) (zs : List Int) (n : Int) (w : World) (hc : Cur w p a len cap) (hr : IsRow .u8 w a len cap zs) (hne : ∀ x, a = some x → 0 < cap → x.block ≠ p) (hm : len ≤ 4611686018427387904) (hn : 0 < n) (hn' : n ≤ 4611686018427387904) :
    Calls Try.prog 20 #[.pointer (some ⟨p, 0, none⟩), .int .i64 n] w fun e w' => ∃ y : Int, 0 ≤ y ∧ y < n ∧ e = .returned (.int .i64 y) ∧ Cur w' p a len cap ∧ w.grownBy w' (some p) := by
  have HB := fun (W : World) (hc : Cur W p a len cap) (hr : IsRow .u8 W a len cap zs) => l1Byte_any p len cap a zs W hc hr hne hm
  have HN : Hid (∀ x, a = some x → 0 < cap → x.block ≠ p) := hne
  clear hne
  by_cases h256 : n ≤ 256
  · go_enter Try.func20, Try.ntmps20
    go_wp2_with fail
    refine (HB w hc hr).mono ?_
    rintro e w1 ⟨y, hy0, hy1, rfl, hc1, hg1⟩
    clear HB hc hr
    go_wp2
    go_ret
    exact ⟨_, Int.emod_nonneg _ (by omega), Int.emod_lt_of_pos _ hn, rfl, hc1, hg1⟩
  · go_enter Try.func20, Try.ntmps20
    go_wp2_with fail
    refine (HB w hc hr).mono ?_
    rintro e w1 ⟨y, hy0, hy1, rfl, hc1, hg1⟩
    have hr1 := hr.grown hg1 HN.out
    go_wp2_with fail
    refine (HB w1 hc1 hr1).mono ?_
    rintro e w2 ⟨y2, hy20, hy21, rfl, hc2, hg2⟩
    have hr2 := hr1.grown hg2 HN.out
    have hg3 := grownBy_trans hg1 hg2
    go_wp2_with fail
    refine (HB w2 hc2 hr2).mono ?_
    rintro e w3 ⟨y3, hy30, hy31, rfl, hc3, hg4⟩
    have hg5 := grownBy_trans hg3 hg4
    clear HB hc hr hr1 hr2 hc1 hc2 hg1 hg2 hg3 hg4
    go_wp2
    go_ret
    exact ⟨_, Int.emod_nonneg _ (by omega), Int.emod_lt_of_pos _ hn, rfl, hc3, hg5⟩

set_option maxHeartbeats 400000 in
theorem l1Int_any (p len cap : Nat) (a : Option Addr) (zs : List Int) (q o m c : Nat) (ns : List Int) (w : World) (hc : Cur w p a len cap) (hr : IsRow .u8 w a len cap zs) (hne : ∀ x, a = some x → 0 < cap → x.block ≠ p) (hm : len ≤ 4611686018427387904)
    (hq : q ≠ p) (hns : ns.length = m) (hm0 : 0 < m) (hm1 : m ≤ 1073741824) (hcell : ∀ j, j < m → w.cell? ⟨q, o + j, none⟩ = some (.int .i64 (ns.getD j 0))) :
    Calls Try.prog 21 #[.pointer (some ⟨p, 0, none⟩), .slice (some ⟨q, o, none⟩) m c] w fun e w' => ∃ x, x ∈ ns ∧ e = .returned (.int .i64 x) ∧ Cur w' p a len cap ∧ w.grownBy w' (some p) := by
  have HB := l1Below_any p len cap a zs m w hc hr hne hm (by omega) (by omega)
  clear hc hr hne
  go_enter Try.func21, Try.ntmps21
  go_wp2_with fail
  refine HB.mono ?_
  clear HB
  rintro e w1 ⟨y, hy0, hy1, rfl, hc1, hg1⟩
  obtain ⟨j, rfl⟩ := Int.eq_ofNat_of_zero_le hy0
  have hcj := hcell j (by omega)
  have hcj1 : w1.cell? ⟨q, o + j, none⟩ = some (.int .i64 (ns.getD j 0)) := by
    rw [World.cell?_of_block (w := w) (hg1.block q (World.block_lt_of_cell? _ _ hcj) (by simpa using hq))]; exact hcj
  obtain ⟨x, hx⟩ : ∃ x, ns.getD j 0 = x := ⟨_, rfl⟩
  have hmem : x ∈ ns := by
    rw [← hx, List.getD_eq_getElem?_getD, List.getElem?_eq_getElem (by omega), Option.getD_some]; exact List.getElem_mem _
  rw [hx] at hcj1
  clear hcell hcj hx
  go_wp2
  go_ret
  exact ⟨x, hmem, rfl, hc1, hg1⟩

theorem cur_one_new (w : World) (x : Value) (t : TypeId) : ∀ j u, [x][j]? = some u → (w.alloc (.cells #[x] t)).cell? ((⟨w.heap.size, 0, none⟩ : Addr).add j) = some u := by
  intro j u hj
  match j, hj with
  | 0, hj => simp at hj; subst hj; simp [Addr.add]

theorem cur_snoc_map (xs : List Int) (x : Int) : xs.map (Value.int .u8) ++ [Value.int .u8 x] = (xs ++ [x]).map (Value.int .u8) := by simp

theorem Cur.lt {w : World} {p len cap : Nat} {a : Option Addr} (h : Cur w p a len cap) : p < w.heap.size := by
  obtain ⟨i, k, _, hh⟩ := h
  exact Nat.lt_of_not_le fun hn => by simp [Array.getElem?_eq_none hn] at hh

theorem Cur.same {w w' : World} {p len cap : Nat} {a : Option Addr} (h : Cur w p a len cap) (hh : w'.heap[p]? = w.heap[p]?) : Cur w' p a len cap := by
  obtain ⟨i, k, hi, hk⟩ := h
  exact ⟨i, k, hi, by rw [hh]; exact hk⟩

end Go.Proofs.Ytkfpfijblflcfaa
