/- A draw of three numbers, for Whom; and what its list is, as a run of numbers. -/
import Derived.Test.YtkfpfijblflcfaaWh3
import Derived.Test.YtkfpfijblflcfaaDrawT
import Derived.Test.YtkfpfijblflcfaaDrw
import Derived.Deep.RegionHeld3
namespace Go.Proofs.Ytkfpfijblflcfaa
open Go.RowKit
set_option linter.unusedVariables false

theorem row_int0 {w : World} {a : Option Addr} {n c : Nat} {l : List Int} (h : RowOf 1 InR w (.slice a n c) l) (i : Nat) (x : Int) (hx : l[i]? = some x) : ∃ b o, a = some ⟨b, o, none⟩ ∧ w.cell? ⟨b, o + i, none⟩ = some (.int .i64 x) := by
  obtain ⟨a', c', e, h1⟩ := row_tellI h
  cases e
  exact h1 i x hx

theorem rng_at (a : Int) (n k : Nat) (h : k < n) : (rngI a n)[k]? = some (a + (k : Int)) := by
  unfold rngI
  rw [List.getElem?_map, List.getElem?_range h]
  rfl

/-- Where the list of a good call begins, and how long it is. -/
structure WRun (way n i lo : Int) (m : Nat) : Prop where
  run : whomL way n i = rngI lo m
  low : 0 ≤ lo
  high : lo + (m : Int) ≤ n
  has : lo ≤ i ∧ i < lo + (m : Int)
  one : way = 1 → m = 1
  all : way = 2 → (m : Int) = n
  rest : way = 3 → lo = i ∧ (m : Int) = n - i

theorem wrun (way n i : Int) (h1 : 0 ≤ i) (h2 : i < n) (h3 : n ≤ 100) (h4 : 1 ≤ way) (h5 : way ≤ 3) : ∃ lo m, WRun way n i lo m := by
  have hL : whomL way n i = if way = 1 then [i] else if way = 2 then rngI 0 n.toNat else if way = 3 then rngI i (n - i).toNat else [] := by
    unfold whomL
    rw [if_pos ⟨by omega, h3, h1, h2⟩]
  by_cases e1 : way = 1
  · rw [if_pos e1] at hL
    exact ⟨i, 1, by rw [hL]; simp [rngI], h1, by omega, by omega, fun _ => rfl, fun h => by omega, fun h => by omega⟩
  rw [if_neg e1] at hL
  by_cases e2 : way = 2
  · rw [if_pos e2] at hL
    exact ⟨0, n.toNat, hL, by omega, by omega, by omega, fun h => absurd h e1, fun _ => by omega, fun h => by omega⟩
  rw [if_neg e2] at hL
  by_cases e3 : way = 3
  · rw [if_pos e3] at hL
    exact ⟨i, (n - i).toNat, hL, h1, by omega, by omega, fun h => absurd h e1, fun h => absurd h e2, fun _ => ⟨rfl, by omega⟩⟩
  · omega

theorem whom_nil (way n i : Int) (h : ¬ (0 ≤ i ∧ i < n ∧ n ≤ 100 ∧ 1 ≤ way ∧ way ≤ 3)) : whomL way n i = [] := by
  unfold whomL
  split
  · rw [if_neg (by omega), if_neg (by omega), if_neg (by omega)]
  · rfl

def dwA : List Int := [3, 1, 5, 0, -1]
def dwB : List Int := [0, 1, 2, 4, -1]
theorem dwA_ok (y : Int) (h : y ∈ dwA) : I64 y := by
  simp only [dwA, List.mem_cons, List.not_mem_nil, or_false] at h
  unfold I64
  omega
theorem dwB_ok (y : Int) (h : y ∈ dwB) : I64 y := by
  simp only [dwB, List.mem_cons, List.not_mem_nil, or_false] at h
  unfold I64
  omega

set_option maxRecDepth 100000 in
set_option maxHeartbeats 4000000 in
theorem drawWhom_any (a : Option Addr) (len cap : Nat) (zs : List Int) (w : World) (hr : IsRow .u8 w a len cap zs) (hm : len ≤ 1048576) :
    Calls Try.prog 10 #[.slice a len cap] w fun e w' => ∃ x y z : Int, e = .returned (.tuple #[.int .i64 x, .int .i64 y, .int .i64 z]) ∧ (I64 x ∧ I64 y ∧ I64 z) ∧ Below w.heap.size w w' := by
  have hne : ∀ x, a = some x → 0 < cap → x.block ≠ w.heap.size := isRow_old hr
  have HNE : Hid (∀ x, a = some x → 0 < cap → x.block ≠ w.heap.size) := hne
  have hN := l1New_any a len cap zs w hr (by omega)
  clear hne
  go_enter Try.func10, Try.ntmps10
  go_wp2_with fail
  refine hN.mono ?_
  clear hN
  rintro e w1 ⟨rfl, hc1, hb1⟩
  have hr1 := hr.later hb1
  clear hr
  go_wp2_with fail
  refine (l1Below_any w.heap.size len cap a zs 5 w1 hc1 hr1 HNE.out (by omega) (by omega) (by omega)).mono ?_
  rintro e w2 ⟨x, hx0, hx5, rfl, hc2, hg2⟩
  have hr2 := hr1.grown hg2 HNE.out
  have hp2 := hc2.lt
  have HB2 : Hid (Below w.heap.size w w2) := hb1.trans (grown_below hg2 (Nat.le_refl _) hb1.size)
  clear hc1 hr1 hg2 hb1
  go_wp2_with fail
  refine (l1Int_any w.heap.size len cap a zs w2.heap.size 0 5 5 dwA _ (hc2.same (Below.heap_alloc w2 _ _ hp2)) (hr2.grown (World.grownBy_alloc w2 _ (some w.heap.size)) HNE.out) HNE.out (by omega) (by omega) rfl (by omega) (by omega) (list_cells w2 dwA _ 3 rfl)).mono ?_
  rintro e w3 ⟨y, hy, rfl, hc3, hg3⟩
  have hr3 := (hr2.grown (World.grownBy_alloc w2 (.cells #[.int .i64 3, .int .i64 1, .int .i64 5, .int .i64 0, .int .i64 (-1)] 3) (some w.heap.size)) HNE.out).grown hg3 HNE.out
  have hp3 := hc3.lt
  have HY : Hid (I64 y) := dwA_ok y hy
  have HB3 : Hid (Below w.heap.size w w3) := HB2.out.trans ((grown_below (World.grownBy_alloc w2 _ (some w.heap.size)) (Nat.le_refl _) HB2.out.size).trans (grown_below hg3 (Nat.le_refl _) (by have := HB2.out.size; simp; omega)))
  clear hc2 hr2 hg3 hy hp2
  go_wp2_with fail
  refine (l1Int_any w.heap.size len cap a zs w3.heap.size 0 5 5 dwB _ (hc3.same (Below.heap_alloc w3 _ _ hp3)) (hr3.grown (World.grownBy_alloc w3 _ (some w.heap.size)) HNE.out) HNE.out (by omega) (by omega) rfl (by omega) (by omega) (list_cells w3 dwB _ 3 rfl)).mono ?_
  rintro e w4 ⟨z, hz, rfl, hc4, hg4⟩
  have HZ : Hid (I64 z) := dwB_ok z hz
  have HB4 : Hid (Below w.heap.size w w4) := HB3.out.trans ((grown_below (World.grownBy_alloc w3 _ (some w.heap.size)) (Nat.le_refl _) HB3.out.size).trans (grown_below hg4 (Nat.le_refl _) (by have := HB3.out.size; simp; omega)))
  have HX : Hid (I64 x) := ⟨by omega, by omega⟩
  clear hc3 hr3 hg4 hz hp3 hc4
  go_wp2_with fail
  refine bodyPost_ret (v := .tuple #[.int .i64 x, .int .i64 y, .int .i64 z]) (by first | (simp [results, Try.results10, go_sem]; done) | (simp [results, Try.results10, go_sem]; rfl)) rfl ⟨x, y, z, rfl, ⟨HX.out, HY.out, HZ.out⟩, HB4.out⟩

end Go.Proofs.Ytkfpfijblflcfaa
