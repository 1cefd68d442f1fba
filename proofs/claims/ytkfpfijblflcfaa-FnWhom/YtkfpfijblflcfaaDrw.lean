/- What every draw begins with: a new cursor; an element of a list of texts; and the law's limit. -/
import Derived.Test.YtkfpfijblflcfaaCur
namespace Go.Proofs.Ytkfpfijblflcfaa
open Go.RowKit

set_option maxRecDepth 100000 in
set_option maxHeartbeats 400000 in
theorem l1New_any (a : Option Addr) (len cap : Nat) (zs : List Int) (w : World) (hr : IsRow .u8 w a len cap zs) (hm : len ≤ 4611686018427387904) :
    Calls Try.prog 18 #[.slice a len cap] w fun e w' => e = .returned (.pointer (some ⟨w.heap.size, 0, none⟩)) ∧ Cur w' w.heap.size a len cap ∧ Below w.heap.size w w' := by
  go_enter Try.func18, Try.ntmps18
  go_wp2
  go_loop [3, 4] (fun h i => ∃ (k : Nat) (x : Int), k ≤ len ∧ i = .int .i64 k ∧ h = .int .i64 x) (fun _ i => len - (intOf i).toNat)
  case atStart => exact ⟨0, _, Nat.zero_le _, rfl, rfl⟩
  case round =>
    obtain ⟨k, x, hk, rfl, rfl⟩ := hrel
    by_cases hlt : k < len ∧ k < 4000
    · obtain ⟨hl1, hl2⟩ := hlt
      rcases hr with ⟨_, h1, _⟩ | ⟨⟨b, off, spot⟩, rfl, hl, _, hz, hcl, _⟩
      · omega
      · have hc0 := hcl 0 (by omega)
        have hspot : spot = none := by simpa [Addr.add] using World.cell?_spot hc0
        subst hspot
        obtain ⟨y, hy⟩ : ∃ y, w.cell? ⟨b, off + k, none⟩ = some (.int .u8 y) := ⟨_, by have := hcl k (by omega); rw [Addr.add_lit] at this; exact this⟩
        clear hcl hc0
        go_wp2
        go_round
        case rel => exact ⟨k + 1, _, by omega, by go_num, rfl⟩
        case measure => simp [intOf]; omega
    · have hcase : ¬ k < len ∨ (k < len ∧ ¬ k < 4000) := by omega
      have hcur : Cur (w.alloc (.cells #[.slice a len cap, .int .i64 0, .int .i64 x] 66)) w.heap.size a len cap := ⟨0, x, Nat.zero_le _, heap_alloc_new w _⟩
      have hbel : Below w.heap.size w (w.alloc (.cells #[.slice a len cap, .int .i64 0, .int .i64 x] 66)) := (Below.refl _ _).alloc (Nat.le_refl _) _
      rcases hcase with h1 | ⟨h1, h2⟩
      · clear hlt hr
        go_wp2
        go_ret
        exact ⟨rfl, hcur, hbel⟩
      · clear hlt hr
        go_wp2
        go_ret
        exact ⟨rfl, hcur, hbel⟩

/-- The cells of a list that the call has just laid. -/
theorem list_cells (w : World) (ns : List Int) (vs : Array Value) (t : TypeId) (h : vs = (ns.map (Value.int .i64)).toArray) : ∀ j, j < ns.length → (w.alloc (.cells vs t)).cell? ⟨w.heap.size, 0 + j, none⟩ = some (.int .i64 (ns.getD j 0)) := by
  intro j hj
  rw [World.cell?_alloc_at vs t w.heap.size (0 + j) rfl, h]
  simp [hj]

/-- The block of a slice that came in is none that is laid later. -/
theorem isRow_old {k : IntKind} {w : World} {a : Option Addr} {len cap : Nat} {zs : List Int} (hr : IsRow k w a len cap zs) : ∀ x, a = some x → 0 < cap → x.block ≠ w.heap.size := by
  intro x hx h0 e
  rcases hr with ⟨h1, _⟩ | ⟨y, h1, h2, _, h4, h5, _⟩
  · simp [h1] at hx
  · have hlt := World.block_lt_of_cell? _ _ (h5 0 (by omega))
    have hb : (y.add 0).block = y.block := by unfold Addr.add; split <;> rfl
    rw [hx] at h1
    cases h1
    omega

theorem grown_below {w w' : World} {B p : Nat} (h : w.grownBy w' (some p)) (hp : B ≤ p) (hB : B ≤ w.heap.size) : Below B w w' := (Below.refl _ w).grown h hB (fun k hk => by cases hk; exact hp)

theorem big_no (a : Option Addr) (len cap : Nat) (w : World) (h : len ≤ 1048576) : Calls Try.prog 6 #[.slice a len cap] w fun e w' => e = .returned (.bool false) ∧ w = w' := by
  have hd : decide ((1048576 : Int) < (len : Int)) = false := by simp; omega
  go_enter Try.func6, Try.ntmps6
  go_wp2
  go_ret
  exact ⟨by rw [← hd]; rfl, rfl⟩
theorem big_yes (a : Option Addr) (len cap : Nat) (w : World) (h : 1048576 < len) : Calls Try.prog 6 #[.slice a len cap] w fun e w' => e = .returned (.bool true) ∧ w = w' := by
  have hd : decide ((1048576 : Int) < (len : Int)) = true := by simp; omega
  go_enter Try.func6, Try.ntmps6
  go_wp2
  go_ret
  exact ⟨by rw [← hd]; rfl, rfl⟩

/-- The cells of a list of texts that the call has just laid. -/
theorem list_cellsS (w : World) (ns : List ByteArray) (vs : Array Value) (t : TypeId) (h : vs = (ns.map Value.string).toArray) : ∀ j, j < ns.length → (w.alloc (.cells vs t)).cell? ⟨w.heap.size, 0 + j, none⟩ = some (.string (ns.getD j ⟨#[]⟩)) := by
  intro j hj
  rw [World.cell?_alloc_at vs t w.heap.size (0 + j) rfl, h]
  simp [hj]

set_option maxHeartbeats 400000 in
theorem l1Str_any (p len cap : Nat) (a : Option Addr) (zs : List Int) (q o m c : Nat) (ns : List ByteArray) (w : World) (hc : Cur w p a len cap) (hr : IsRow .u8 w a len cap zs) (hne : ∀ x, a = some x → 0 < cap → x.block ≠ p) (hm : len ≤ 4611686018427387904)
    (hq : q ≠ p) (hns : ns.length = m) (hm0 : 0 < m) (hm1 : m ≤ 1073741824) (hcell : ∀ j, j < m → w.cell? ⟨q, o + j, none⟩ = some (.string (ns.getD j ⟨#[]⟩))) :
    Calls Try.prog 66 #[.pointer (some ⟨p, 0, none⟩), .slice (some ⟨q, o, none⟩) m c] w fun e w' => ∃ x, x ∈ ns ∧ e = .returned (.string x) ∧ Cur w' p a len cap ∧ w.grownBy w' (some p) := by
  have HB := l1Below_any p len cap a zs m w hc hr hne hm (by omega) (by omega)
  clear hc hr hne
  go_enter Try.func66, Try.ntmps66
  go_wp2_with fail
  refine HB.mono ?_
  clear HB
  rintro e w1 ⟨y, hy0, hy1, rfl, hc1, hg1⟩
  obtain ⟨j, rfl⟩ := Int.eq_ofNat_of_zero_le hy0
  have hcj := hcell j (by omega)
  have hcj1 : w1.cell? ⟨q, o + j, none⟩ = some (.string (ns.getD j ⟨#[]⟩)) := by
    rw [World.cell?_of_block (w := w) (hg1.block q (World.block_lt_of_cell? _ _ hcj) (by simpa using hq))]; exact hcj
  obtain ⟨x, hx⟩ : ∃ x, ns.getD j ⟨#[]⟩ = x := ⟨_, rfl⟩
  have hmem : x ∈ ns := by
    rw [← hx, List.getD_eq_getElem?_getD, List.getElem?_eq_getElem (by omega), Option.getD_some]; exact List.getElem_mem _
  rw [hx] at hcj1
  clear hcell hcj hx
  go_wp2
  go_ret
  exact ⟨x, hmem, rfl, hc1, hg1⟩

theorem grown_set {w w2 : World} {p g j : Nat} {u : Value} (h : w.grownBy w2 (some p)) (hg : w.heap.size ≤ g) : w.grownBy (w2.setCell ⟨g, j, none⟩ u) (some p) :=
  ⟨h.os, h.tape, h.output, by simpa using h.size, fun k hk hne => (heap_setCell_other w2 ⟨g, j, none⟩ k u (fun e => by simp at e; omega)).trans (h.block k hk hne)⟩
theorem cur_set {w2 : World} {p g j len cap : Nat} {a : Option Addr} {u : Value} (h : Cur w2 p a len cap) (hg : p ≠ g) : Cur (w2.setCell ⟨g, j, none⟩ u) p a len cap :=
  h.same (heap_setCell_other w2 ⟨g, j, none⟩ p u (fun e => by simp at e; omega))

end Go.Proofs.Ytkfpfijblflcfaa
