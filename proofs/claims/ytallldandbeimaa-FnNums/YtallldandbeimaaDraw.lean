/- What a draw of a number or of a text comes to: bytes in new memory, and a number or a text of few bytes; nothing old is written. -/
import Derived.Test.YtallldandbeimaaCur
import Derived.Test.YtallldandbeimaaMark
import Derived.Deep.RegionWith
namespace Go.Proofs.Ytallldandbeimaa
open Go.RowKit

theorem own_weaken {w : World} {B B' n : Nat} {v : Value} {xs : List Value} (h : w.ownsRow B 5 1 v n xs) (hb : B' ≤ B) : w.ownsRow B' 5 1 v n xs := by
  refine ⟨h.1, ?_⟩
  rcases h.2 with h2 | ⟨g, cap, cur, h1, h2, r⟩
  · exact .inl h2
  · exact .inr ⟨g, cap, cur, h1, Nat.le_trans hb h2, r⟩

set_option maxRecDepth 100000 in
set_option maxHeartbeats 400000 in
theorem l1New_any (a : Option Addr) (len cap : Nat) (zs : List Int) (w : World) (hr : IsRow .u8 w a len cap zs) (hm : len ≤ 4611686018427387904) :
    Calls Try.prog 11 #[.slice a len cap] w fun e w' => e = .returned (.pointer (some ⟨w.heap.size, 0, none⟩)) ∧ Cur w' w.heap.size a len cap ∧ Below w.heap.size w w' := by
  go_enter Try.func11, Try.ntmps11
  go_wp2
  go_loop [3, 4] (fun h i => ∃ (k : Nat) (x : Int), k ≤ len ∧ i = .int .i64 k ∧ h = .int .i64 x) (fun _ i => len - (intOf i).toNat)
  case atStart => exact ⟨0, _, Nat.zero_le _, rfl, rfl⟩
  case round =>
    obtain ⟨k, x, hk, rfl, rfl⟩ := hrel
    by_cases hlt : k < len ∧ k < 4000
    · obtain ⟨hl1, hl2⟩ := hlt
      rcases hr with ⟨_, h1, _⟩ | ⟨⟨b, off, spot⟩, rfl, hl, _, hz, hcl, _⟩
      · omega
      · have hc0 := hcl 0 (by omega)
        have hspot : spot = none := by simpa [Addr.add] using World.cell?_spot hc0
        subst hspot
        obtain ⟨y, hy⟩ : ∃ y, w.cell? ⟨b, off + k, none⟩ = some (.int .u8 y) := ⟨_, by have := hcl k (by omega); rw [Addr.add_lit] at this; exact this⟩
        clear hcl hc0
        go_wp2
        go_round
        case rel => exact ⟨k + 1, _, by omega, by go_num, rfl⟩
        case measure => simp [intOf]; omega
    · have hcase : ¬ k < len ∨ (k < len ∧ ¬ k < 4000) := by omega
      have hcur : Cur (w.alloc (.cells #[.slice a len cap, .int .i64 0, .int .i64 x] 45)) w.heap.size a len cap := ⟨0, x, Nat.zero_le _, heap_alloc_new w _⟩
      have hbel : Below w.heap.size w (w.alloc (.cells #[.slice a len cap, .int .i64 0, .int .i64 x] 45)) := (Below.refl _ _).alloc (Nat.le_refl _) _
      rcases hcase with h1 | ⟨h1, h2⟩
      · clear hlt hr
        go_wp2
        go_ret
        exact ⟨rfl, hcur, hbel⟩
      · clear hlt hr
        go_wp2
        go_ret
        exact ⟨rfl, hcur, hbel⟩

/-- The cells of a list that the call has just laid. -/
theorem list_cells (w : World) (ns : List Int) (vs : Array Value) (t : TypeId) (h : vs = (ns.map (Value.int .i64)).toArray) : ∀ j, j < ns.length → (w.alloc (.cells vs t)).cell? ⟨w.heap.size, 0 + j, none⟩ = some (.int .i64 (ns.getD j 0)) := by
  intro j hj
  rw [World.cell?_alloc_at vs t w.heap.size (0 + j) rfl, h]
  simp [hj]

set_option maxHeartbeats 400000 in
theorem l1Some_any (p len cap : Nat) (a : Option Addr) (zs : List Int) (w : World) (hc : Cur w p a len cap) (hr : IsRow .u8 w a len cap zs) (hne : ∀ x, a = some x → 0 < cap → x.block ≠ p) (hm : len ≤ 4611686018427387904) :
    Calls Try.prog 12 #[.pointer (some ⟨p, 0, none⟩)] w fun e w' => ∃ (g c : Nat) (xs : List Int), e = .returned (.slice (some ⟨g, 0, none⟩) xs.length c) ∧ xs.length ≤ 9 ∧ (∀ x ∈ xs, 0 ≤ x ∧ x ≤ 255) ∧
      w'.ownsRow w.heap.size 5 1 (.slice (some ⟨g, 0, none⟩) xs.length c) xs.length (xs.map (Value.int .u8)) ∧ Cur w' p a len cap ∧ w.grownBy w' (some p) := by
  have hp := hc.lt
  have hc0 : Cur (w.alloc (.cells #[.int .i64 0, .int .i64 1, .int .i64 2, .int .i64 5, .int .i64 9] 3)) p a len cap := hc.same (Below.heap_alloc w _ p hp)
  have hg0 : w.grownBy (w.alloc (.cells #[.int .i64 0, .int .i64 1, .int .i64 2, .int .i64 5, .int .i64 9] 3)) (some p) := World.grownBy_alloc w _ (some p)
  have hr0 := hr.grown hg0 hne
  have HI := l1Int_any p len cap a zs w.heap.size 0 5 5 [0, 1, 2, 5, 9] _ hc0 hr0 hne hm (by omega) rfl (by omega) (by omega) (list_cells w [0, 1, 2, 5, 9] _ 3 rfl)
  have HB := fun (k : Nat) (W : World) (hc : Cur W p a len cap) (hr : IsRow .u8 W a len cap zs) => l1Bytes_any p len cap a zs k W hc hr hne hm
  have HN : Hid (∀ x, a = some x → 0 < cap → x.block ≠ p) := hne
  clear hne hc hr hc0
  go_enter Try.func12, Try.ntmps12
  go_wp2_with fail
  refine HI.mono ?_
  clear HI
  rintro e w1 ⟨x, hx, rfl, hc1, hg1⟩
  have hx9 : 0 ≤ x ∧ x ≤ 9 := by simp at hx; omega
  obtain ⟨k, rfl⟩ := Int.eq_ofNat_of_zero_le hx9.1
  have hr1 := hr0.grown hg1 HN.out
  have hg2 := grownBy_trans hg0 hg1
  clear hx hr0 hg0 hg1
  go_wp2_with fail
  refine (HB k w1 hc1 hr1 (by omega)).mono ?_
  rintro e w2 ⟨v, xs, rfl, hl, hrng, hnil, hown, hc2, hg3⟩
  subst hl
  have hg4 := grownBy_trans hg2 hg3
  have hown2 := own_weaken hown hg2.size
  obtain ⟨g, c, hv⟩ : ∃ g c, v = .slice (some ⟨g, 0, none⟩) xs.length c := by
    rcases hown2.2 with ⟨h, _⟩ | ⟨g, c, cur, h, _⟩
    · exact absurd h hnil
    · exact ⟨g, c, h⟩
  rw [hv] at hown2 ⊢
  clear hown hv hnil HB hr1 hc1 hg2 hg3
  go_wp2
  go_ret
  exact ⟨g, c, xs, rfl, by omega, hrng, hown2, hc2, hg4⟩

/-- The block of a slice that came in is none that is laid later. -/
theorem isRow_old {k : IntKind} {w : World} {a : Option Addr} {len cap : Nat} {zs : List Int} (hr : IsRow k w a len cap zs) : ∀ x, a = some x → 0 < cap → x.block ≠ w.heap.size := by
  intro x hx h0 e
  rcases hr with ⟨h1, _⟩ | ⟨y, h1, h2, _, h4, h5, _⟩
  · simp [h1] at hx
  · have hlt := World.block_lt_of_cell? _ _ (h5 0 (by omega))
    have hb : (y.add 0).block = y.block := by unfold Addr.add; split <;> rfl
    rw [hx] at h1
    cases h1
    omega

/-- The numbers of which one is drawn. -/
def nums14 (y : Int) : List Int := [0, 1, -1, 63, 64, -64, -65, 8192, 1000000000000, -1000000000000, 1000000000001, -9223372036854775808, 9223372036854775807, y]
theorem nums14_bd (y : Int) (h0 : 0 ≤ y) (h1 : y < 100000) : ∀ N ∈ nums14 y, -9223372036854775808 ≤ N ∧ N ≤ 9223372036854775807 := by
  intro N hN
  simp only [nums14, List.mem_cons, List.not_mem_nil, or_false] at hN
  omega

theorem grown_below {w w' : World} {B p : Nat} (h : w.grownBy w' (some p)) (hp : B ≤ p) (hB : B ≤ w.heap.size) : Below B w w' := (Below.refl _ w).grown h hB (fun k hk => by cases hk; exact hp)

set_option maxHeartbeats 400000 in
theorem drawPutNum_any (a : Option Addr) (len cap : Nat) (zs : List Int) (w : World) (hr : IsRow .u8 w a len cap zs) (hm : len ≤ 1048576) :
    Calls Try.prog 5 #[.slice a len cap] w fun e w' => ∃ (g c : Nat) (xs : List Int) (N : Int), e = .returned (.tuple #[.slice (some ⟨g, 0, none⟩) xs.length c, .int .i64 N]) ∧ xs.length ≤ 9 ∧ (∀ x ∈ xs, 0 ≤ x ∧ x ≤ 255) ∧
      (-9223372036854775808 ≤ N ∧ N ≤ 9223372036854775807) ∧ w'.ownsRow w.heap.size 5 1 (.slice (some ⟨g, 0, none⟩) xs.length c) xs.length (xs.map (Value.int .u8)) ∧ Below w.heap.size w w' := by
  have hne : ∀ x, a = some x → 0 < cap → x.block ≠ w.heap.size := isRow_old hr
  have hN := l1New_any a len cap zs w hr (by omega)
  have HS := fun (W : World) (hc : Cur W w.heap.size a len cap) (hr : IsRow .u8 W a len cap zs) => l1Some_any w.heap.size len cap a zs W hc hr hne (by omega)
  have HW := fun (W : World) (hc : Cur W w.heap.size a len cap) (hr : IsRow .u8 W a len cap zs) => l1Below_any w.heap.size len cap a zs 100000 W hc hr hne (by omega) (by omega) (by omega)
  have HNE : Hid (∀ x, a = some x → 0 < cap → x.block ≠ w.heap.size) := hne
  clear hne
  go_enter Try.func5, Try.ntmps5
  go_wp2_with fail
  refine hN.mono ?_
  clear hN
  rintro e w1 ⟨rfl, hc1, hb1⟩
  have hr1 := hr.later hb1
  clear hr
  go_wp2_with fail
  refine (HS w1 hc1 hr1).mono ?_
  rintro e w2 ⟨g, c, xs, rfl, hl9, hrng, hown, hc2, hg2⟩
  have hr2 := hr1.grown hg2 HNE.out
  have hb2 : Below w.heap.size w w2 := hb1.trans (grown_below hg2 (Nat.le_refl _) hb1.size)
  have hp1 := hc1.lt
  have hgp : w.heap.size ≠ g := fun e => by have := (hown.lt g rfl).1; omega
  clear hc1 hr1 hg2 HS
  go_wp2_with fail
  refine (HW w2 hc2 hr2).mono ?_
  rintro e w3 ⟨y, hy0, hy1, rfl, hc3, hg3⟩
  have hr3 := hr2.grown hg3 HNE.out
  have hb3 : Below w.heap.size w w3 := hb2.trans (grown_below hg3 (Nat.le_refl _) hb2.size)
  have hown3 := own_grown hown hg3 hgp.symm
  clear hc2 hr2 hg3 HW hb2 hown
  go_wp2_with fail
  have hp3 := hc3.lt
  refine (l1Int_any w.heap.size len cap a zs w3.heap.size 0 14 14 (nums14 y) _ (hc3.same (Below.heap_alloc w3 _ _ hp3)) (hr3.grown (World.grownBy_alloc w3 _ (some w.heap.size)) HNE.out) HNE.out (by omega) (by omega) rfl (by omega) (by omega) (list_cells w3 (nums14 y) _ 3 rfl)).mono ?_
  rintro e w4 ⟨N, hN, rfl, hc4, hg4⟩
  have hNb := nums14_bd y hy0 hy1 N hN
  have hb4 : Below w.heap.size w w4 := (hb3.alloc hb3.size _).trans (grown_below hg4 (Nat.le_refl _) (by simp; have := hb3.size; omega))
  have hown4 : w4.ownsRow w1.heap.size 5 1 (.slice (some ⟨g, 0, none⟩) xs.length c) xs.length (xs.map (Value.int .u8)) := own_grown (hown3.alloc _) hg4 hgp.symm
  have hown5 := own_weaken hown4 hb1.size
  clear hc3 hr3 hown3 hown4 hb3 hg4 hc4 hN
  go_wp2_with fail
  go_ret2
  exact ⟨g, c, xs, N, rfl, hl9, hrng, hNb, hown5, hb4⟩
end Go.Proofs.Ytallldandbeimaa
