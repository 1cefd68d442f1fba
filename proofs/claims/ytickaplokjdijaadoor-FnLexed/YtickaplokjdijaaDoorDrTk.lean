/- What a draw of tokens comes to: at most nine tokens that are right, in new memory; nothing old is written. -/
import Derived.Test.YtickaplokjdijaaDoorDrw
import Derived.Test.YtickaplokjdijaaDoorLx7
import Derived.Deep.RegionWith
namespace Go.Proofs.YtickaplokjdijaaDoor
open Go.RowKit
set_option linter.unusedVariables false

def drA : List ByteArray := [⟨#[111, 107]⟩, ⟨#[99, 97, 115, 101]⟩, ⟨#[97, 95, 49]⟩]
def drV : List ByteArray := [⟨#[88]⟩, ⟨#[95]⟩, ⟨#[83, 116, 97, 116, 101, 49]⟩, ⟨#[95, 97]⟩]
def drM : List ByteArray := [⟨#[40]⟩, ⟨#[41]⟩, ⟨#[45, 62]⟩, ⟨#[61, 61]⟩, ⟨#[60]⟩, ⟨#[45]⟩, ⟨#[44]⟩, ⟨#[124]⟩, ⟨#[91]⟩, ⟨#[125]⟩]
def drN : List Int := [0, 7, 42, 1000000000000]

/-- A token that is right, and no long one. -/
def DTok (k n : Int) (s : ByteArray) : Prop := TokP k n s ∧ s.size ≤ 20

theorem chOk_dec (i : Nat) (x : Int) (h : (decide (97 ≤ x ∧ x ≤ 122) || (i != 0 && (decide (48 ≤ x ∧ x ≤ 57) || x == 95))) = true) : ChOk i x := by
  simp only [Bool.or_eq_true, decide_eq_true_eq, Bool.and_eq_true, bne_iff_ne, beq_iff_eq] at h
  exact h
theorem nmOk_dec (i : Nat) (x : Int) (h : (lgB x || (i != 0 && (smB x || dgB x))) = true) : NmOk i x := by
  simp only [Bool.or_eq_true, Bool.and_eq_true, bne_iff_ne] at h
  exact h

theorem drA_ok : ∀ x ∈ drA, DTok 2 0 x := by
  intro x hx
  have h1 : ∀ x ∈ drA, 1 ≤ x.size ∧ x.size ≤ 20 ∧ ∀ i : Fin x.size, (decide (97 ≤ (x[i].toNat : Int) ∧ (x[i].toNat : Int) ≤ 122) || ((i : Nat) != 0 && (decide (48 ≤ (x[i].toNat : Int) ∧ (x[i].toNat : Int) ≤ 57) || (x[i].toNat : Int) == 95))) = true := by
    unfold drA; simp only [List.forall_mem_cons, List.not_mem_nil, false_implies, implies_true, and_true]; decide
  obtain ⟨g1, g2, g3⟩ := h1 x hx
  exact ⟨(tokP2 _ _).2 ⟨⟨fun i h => chOk_dec i _ (g3 ⟨i, h⟩), g1, g2⟩, rfl⟩, g2⟩
theorem drV_ok : ∀ x ∈ drV, DTok 3 0 x := by
  intro x hx
  have h1 : ∀ x ∈ drV, 1 ≤ x.size ∧ x.size ≤ 20 ∧ ∀ i : Fin x.size, (lgB (x[i].toNat : Int) || ((i : Nat) != 0 && (smB (x[i].toNat : Int) || dgB (x[i].toNat : Int)))) = true := by
    unfold drV; simp only [List.forall_mem_cons, List.not_mem_nil, false_implies, implies_true, and_true]; decide
  obtain ⟨g1, g2, g3⟩ := h1 x hx
  exact ⟨(tokP3 _ _).2 ⟨⟨fun i h => nmOk_dec i _ (g3 ⟨i, h⟩), g1, g2⟩, rfl⟩, g2⟩
theorem drM_ok : ∀ x ∈ drM, DTok 4 0 x := by
  intro x hx
  have h1 : ∀ x ∈ drM, x.size ≤ 20 ∧ (x.data.toList = [45, 62] ∨ x.data.toList = [61, 61] ∨ ∃ c ∈ ones, x.data.toList = [c]) := by
    unfold drM; simp only [List.forall_mem_cons, List.not_mem_nil, false_implies, implies_true, and_true]; decide
  obtain ⟨g1, g2⟩ := h1 x hx
  exact ⟨(tokP4 _ _).2 ⟨g2, rfl⟩, g1⟩
theorem drN_ok : ∀ x ∈ drN, DTok 1 x ⟨#[]⟩ := by
  intro x hx
  simp only [drN, List.mem_cons, List.not_mem_nil, or_false] at hx
  exact ⟨(tokP1 _ _).2 ⟨by omega, rfl⟩, Nat.zero_le _⟩

theorem grown_set {w w2 : World} {p g j : Nat} {u : Value} (h : w.grownBy w2 (some p)) (hg : w.heap.size ≤ g) : w.grownBy (w2.setCell ⟨g, j, none⟩ u) (some p) :=
  ⟨h.os, h.tape, h.output, by simpa using h.size, fun k hk hne => (heap_setCell_other w2 ⟨g, j, none⟩ k u (fun e => by simp at e; omega)).trans (h.block k hk hne)⟩
theorem cur_set {w2 : World} {p g j len cap : Nat} {a : Option Addr} {u : Value} (h : Cur w2 p a len cap) (hg : p ≠ g) : Cur (w2.setCell ⟨g, j, none⟩ u) p a len cap :=
  h.same (heap_setCell_other w2 ⟨g, j, none⟩ p u (fun e => by simp at e; omega))

set_option maxHeartbeats 1000000 in
theorem l3Token_any (p len cap : Nat) (a : Option Addr) (zs : List Int) (w : World) (hc : Cur w p a len cap) (hr : IsRow .u8 w a len cap zs) (hne : ∀ x, a = some x → 0 < cap → x.block ≠ p) (hm : len ≤ 4611686018427387904) :
    Calls Tryd.prog 55 #[.pointer (some ⟨p, 0, none⟩)] w fun e w' => ∃ (k n : Int) (s : ByteArray), e = .returned (.agg #[.int .i64 k, .int .i64 n, .string s]) ∧ Hid (DTok k n s) ∧ Cur w' p a len cap ∧ w.grownBy w' (some p) := by
  have HNE : Hid (∀ x, a = some x → 0 < cap → x.block ≠ p) := hne
  have hp := hc.lt
  obtain ⟨W, hW⟩ : ∃ W, W = w.alloc (.cells #[.int .i64 0, .int .i64 0, .string ⟨#[]⟩] 31) := ⟨_, rfl⟩
  have hg0 : w.grownBy W (some p) := by rw [hW]; exact World.grownBy_alloc w _ (some p)
  have hc0 : Cur W p a len cap := by rw [hW]; exact hc.same (Below.heap_alloc w _ p hp)
  have hr0 := hr.grown hg0 HNE.out
  have hB0 : W.heap[w.heap.size]? = some (.cells #[.int .i64 0, .int .i64 0, .string ⟨#[]⟩] 31 (0, 0)) := by rw [hW]; exact heap_alloc_new w _
  have hz0 : w.heap.size < W.heap.size := by rw [hW]; simp
  have HB := l1Below_any p len cap a zs 4 W hc0 hr0 HNE.out hm (by omega) (by omega)
  rw [hW] at HB
  have HW : Hid (W = _) := hW
  clear hne hW hc hr hc0
  go_enter Tryd.func55, Tryd.ntmps55
  go_wp2_with fail
  refine HB.mono ?_
  clear HB
  rintro e w1 ⟨y, hy0, hy1, rfl, hc1, hg1⟩
  rw [← HW.out] at hg1
  have hr1 := hr0.grown hg1 HNE.out
  have hB1 := (hg1.block w.heap.size hz0 (by simp; omega)).trans hB0
  have hz1 : w.heap.size < w1.heap.size := Nat.lt_of_lt_of_le hz0 hg1.size
  have hg2 := grownBy_trans hg0 hg1
  have hp1 := hc1.lt
  clear hr0 hB0 HW hg0 hg1 hz0
  rcases (by omega : y = 0 ∨ y = 1 ∨ y = 2 ∨ y = 3) with rfl | rfl | rfl | rfl
  · go_wp2_with fail
    refine (l1Int_any p len cap a zs w1.heap.size 0 4 4 drN _ (hc1.same (Below.heap_alloc w1 _ _ hp1)) (hr1.grown (World.grownBy_alloc w1 _ (some p)) HNE.out) HNE.out hm (by omega) rfl (by omega) (by omega) (list_cells w1 drN _ 3 rfl)).mono ?_
    rintro e w2 ⟨x, hx, rfl, hc2, hg3⟩
    have HX : Hid (DTok 1 x ⟨#[]⟩) := drN_ok x hx
    have hres := ((hg3.block w.heap.size (by simp; omega) (by simp; omega)).trans (Below.heap_alloc w1 _ _ hz1)).trans hB1
    have b0 : w2.cell? ⟨w.heap.size, 0, none⟩ = some (.int .i64 0) := by rw [cell_of_row w2 _ 0 _ _ _ hres]; rfl
    have b1 : w2.cell? ⟨w.heap.size, 1, none⟩ = some (.int .i64 0) := by rw [cell_of_row w2 _ 1 _ _ _ hres]; rfl
    have b2 : w2.cell? ⟨w.heap.size, 2, none⟩ = some (.string ⟨#[]⟩) := by rw [cell_of_row w2 _ 2 _ _ _ hres]; rfl
    have y0 : w2.frozen? ⟨w.heap.size, 0, none⟩ = false := frozen_of_row w2 _ 0 _ _ hres
    have y1 : w2.frozen? ⟨w.heap.size, 1, none⟩ = false := frozen_of_row w2 _ 1 _ _ hres
    have y2 : w2.frozen? ⟨w.heap.size, 2, none⟩ = false := frozen_of_row w2 _ 2 _ _ hres
    have hwz2 : w.heap.size < w2.heap.size := lt_of_heap hres
    have hg4 : w.grownBy w2 (some p) := grownBy_trans (grownBy_trans hg2 (World.grownBy_alloc w1 _ (some p))) hg3
    clear hx hg2 hg3 hc1 hr1 hres hB1
    go_wp2_with fail
    refine bodyPost_ret (v := .agg #[.int .i64 1, .int .i64 x, .string ⟨#[]⟩]) (by first | (simp [results, Tryd.results55, go_sem, b0, b1, b2]; done) | (simp [results, Tryd.results55, go_sem, b0, b1, b2]; rfl)) rfl ⟨1, x, ⟨#[]⟩, rfl, HX, ?_, ?_⟩
    · repeat (first | exact hc2 | refine cur_set ?_ (by omega))
    · repeat (first | exact hg4 | refine grown_set ?_ (Nat.le_refl _))
  · go_wp2_with fail
    refine (l1Str_any p len cap a zs w1.heap.size 0 3 3 drA _ (hc1.same (Below.heap_alloc w1 _ _ hp1)) (hr1.grown (World.grownBy_alloc w1 _ (some p)) HNE.out) HNE.out hm (by omega) rfl (by omega) (by omega) (list_cellsS w1 drA _ _ rfl)).mono ?_
    rintro e w2 ⟨x, hx, rfl, hc2, hg3⟩
    have HX : Hid (DTok 2 0 x) := drA_ok x hx
    have hres := ((hg3.block w.heap.size (by simp; omega) (by simp; omega)).trans (Below.heap_alloc w1 _ _ hz1)).trans hB1
    have b0 : w2.cell? ⟨w.heap.size, 0, none⟩ = some (.int .i64 0) := by rw [cell_of_row w2 _ 0 _ _ _ hres]; rfl
    have b1 : w2.cell? ⟨w.heap.size, 1, none⟩ = some (.int .i64 0) := by rw [cell_of_row w2 _ 1 _ _ _ hres]; rfl
    have b2 : w2.cell? ⟨w.heap.size, 2, none⟩ = some (.string ⟨#[]⟩) := by rw [cell_of_row w2 _ 2 _ _ _ hres]; rfl
    have y0 : w2.frozen? ⟨w.heap.size, 0, none⟩ = false := frozen_of_row w2 _ 0 _ _ hres
    have y1 : w2.frozen? ⟨w.heap.size, 1, none⟩ = false := frozen_of_row w2 _ 1 _ _ hres
    have y2 : w2.frozen? ⟨w.heap.size, 2, none⟩ = false := frozen_of_row w2 _ 2 _ _ hres
    have hwz2 : w.heap.size < w2.heap.size := lt_of_heap hres
    have hg4 : w.grownBy w2 (some p) := grownBy_trans (grownBy_trans hg2 (World.grownBy_alloc w1 _ (some p))) hg3
    clear hx hg2 hg3 hc1 hr1 hres hB1
    go_wp2_with fail
    refine bodyPost_ret (v := .agg #[.int .i64 2, .int .i64 0, .string x]) (by first | (simp [results, Tryd.results55, go_sem, b0, b1, b2]; done) | (simp [results, Tryd.results55, go_sem, b0, b1, b2]; rfl)) rfl ⟨2, 0, x, rfl, HX, ?_, ?_⟩
    · repeat (first | exact hc2 | refine cur_set ?_ (by omega))
    · repeat (first | exact hg4 | refine grown_set ?_ (Nat.le_refl _))
  · go_wp2_with fail
    refine (l1Str_any p len cap a zs w1.heap.size 0 4 4 drV _ (hc1.same (Below.heap_alloc w1 _ _ hp1)) (hr1.grown (World.grownBy_alloc w1 _ (some p)) HNE.out) HNE.out hm (by omega) rfl (by omega) (by omega) (list_cellsS w1 drV _ _ rfl)).mono ?_
    rintro e w2 ⟨x, hx, rfl, hc2, hg3⟩
    have HX : Hid (DTok 3 0 x) := drV_ok x hx
    have hres := ((hg3.block w.heap.size (by simp; omega) (by simp; omega)).trans (Below.heap_alloc w1 _ _ hz1)).trans hB1
    have b0 : w2.cell? ⟨w.heap.size, 0, none⟩ = some (.int .i64 0) := by rw [cell_of_row w2 _ 0 _ _ _ hres]; rfl
    have b1 : w2.cell? ⟨w.heap.size, 1, none⟩ = some (.int .i64 0) := by rw [cell_of_row w2 _ 1 _ _ _ hres]; rfl
    have b2 : w2.cell? ⟨w.heap.size, 2, none⟩ = some (.string ⟨#[]⟩) := by rw [cell_of_row w2 _ 2 _ _ _ hres]; rfl
    have y0 : w2.frozen? ⟨w.heap.size, 0, none⟩ = false := frozen_of_row w2 _ 0 _ _ hres
    have y1 : w2.frozen? ⟨w.heap.size, 1, none⟩ = false := frozen_of_row w2 _ 1 _ _ hres
    have y2 : w2.frozen? ⟨w.heap.size, 2, none⟩ = false := frozen_of_row w2 _ 2 _ _ hres
    have hwz2 : w.heap.size < w2.heap.size := lt_of_heap hres
    have hg4 : w.grownBy w2 (some p) := grownBy_trans (grownBy_trans hg2 (World.grownBy_alloc w1 _ (some p))) hg3
    clear hx hg2 hg3 hc1 hr1 hres hB1
    go_wp2_with fail
    refine bodyPost_ret (v := .agg #[.int .i64 3, .int .i64 0, .string x]) (by first | (simp [results, Tryd.results55, go_sem, b0, b1, b2]; done) | (simp [results, Tryd.results55, go_sem, b0, b1, b2]; rfl)) rfl ⟨3, 0, x, rfl, HX, ?_, ?_⟩
    · repeat (first | exact hc2 | refine cur_set ?_ (by omega))
    · repeat (first | exact hg4 | refine grown_set ?_ (Nat.le_refl _))
  · go_wp2_with fail
    refine (l1Str_any p len cap a zs w1.heap.size 0 10 10 drM _ (hc1.same (Below.heap_alloc w1 _ _ hp1)) (hr1.grown (World.grownBy_alloc w1 _ (some p)) HNE.out) HNE.out hm (by omega) rfl (by omega) (by omega) (list_cellsS w1 drM _ _ rfl)).mono ?_
    rintro e w2 ⟨x, hx, rfl, hc2, hg3⟩
    have HX : Hid (DTok 4 0 x) := drM_ok x hx
    have hres := ((hg3.block w.heap.size (by simp; omega) (by simp; omega)).trans (Below.heap_alloc w1 _ _ hz1)).trans hB1
    have b0 : w2.cell? ⟨w.heap.size, 0, none⟩ = some (.int .i64 0) := by rw [cell_of_row w2 _ 0 _ _ _ hres]; rfl
    have b1 : w2.cell? ⟨w.heap.size, 1, none⟩ = some (.int .i64 0) := by rw [cell_of_row w2 _ 1 _ _ _ hres]; rfl
    have b2 : w2.cell? ⟨w.heap.size, 2, none⟩ = some (.string ⟨#[]⟩) := by rw [cell_of_row w2 _ 2 _ _ _ hres]; rfl
    have y0 : w2.frozen? ⟨w.heap.size, 0, none⟩ = false := frozen_of_row w2 _ 0 _ _ hres
    have y1 : w2.frozen? ⟨w.heap.size, 1, none⟩ = false := frozen_of_row w2 _ 1 _ _ hres
    have y2 : w2.frozen? ⟨w.heap.size, 2, none⟩ = false := frozen_of_row w2 _ 2 _ _ hres
    have hwz2 : w.heap.size < w2.heap.size := lt_of_heap hres
    have hg4 : w.grownBy w2 (some p) := grownBy_trans (grownBy_trans hg2 (World.grownBy_alloc w1 _ (some p))) hg3
    clear hx hg2 hg3 hc1 hr1 hres hB1
    go_wp2_with fail
    refine bodyPost_ret (v := .agg #[.int .i64 4, .int .i64 0, .string x]) (by first | (simp [results, Tryd.results55, go_sem, b0, b1, b2]; done) | (simp [results, Tryd.results55, go_sem, b0, b1, b2]; rfl)) rfl ⟨4, 0, x, rfl, HX, ?_, ?_⟩
    · repeat (first | exact hc2 | refine cur_set ?_ (by omega))
    · repeat (first | exact hg4 | refine grown_set ?_ (Nat.le_refl _))

end Go.Proofs.YtickaplokjdijaaDoor
