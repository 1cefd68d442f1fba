/- A draw of a term: the walk. -/
import Derived.Test.YtbllnmafilabpaaSGetM
import Derived.Test.YtbllnmafilabpaaRLawM
import Derived.Deep.RegionWith
namespace Go.Proofs.Ytbllnmafilabpaa
open Go.RowKit
set_option linter.unusedVariables false

theorem dpost_list {m p len cap T : Nat} {al a : Option Addr} {w wr Z : World} {k : Int} {l c : Nat} {ts : List (Tm m)} {fp : List Nat} (hM : Made m (T + 1) wr (.slice a l c) ts fp) (hsm : ∀ u ∈ ts, SmT m u) (hk : k = 4 ∨ k = 5) (hl : ts.length ≤ 3)
    (hc : Cur wr p al len cap) (hg : w.grownBy wr (some p)) (hp : p < w.heap.size) (hT0 : w.heap.size < T) (hZ : Turned w.heap.size wr Z) : DPost (m + 1) p al len cap w Z (.agg #[.int .i64 k, .int .i64 0, .string ⟨#[]⟩, .slice a l c]) := by
  obtain ⟨a', l', c', fp', e, q1, q2, q3⟩ := hM.own
  refine ⟨hc.same (hZ.block p hc.lt (by omega)), ⟨hZ.os.trans hg.os, hZ.tape.trans hg.tape, hZ.output.trans hg.output, Nat.le_trans hg.size hZ.size, fun g h1 h2 => (hZ.block g (Nat.lt_of_lt_of_le h1 hg.size) (by omega)).trans (hg.block g h1 h2)⟩, ((k, 0, ⟨#[]⟩, ts) : Int × Int × ByteArray × List (Tm m)), fp', ⟨a, l, c, rfl, ?_⟩, ⟨q2.1, fun g hg => ⟨by have := (q2.2 g hg).1; omega, by have := (q2.2 g hg).2; have := hZ.size; omega⟩⟩, ⟨⟨by show -9223372036854775808 ≤ k; omega, by show k ≤ 9223372036854775807; omega⟩, ⟨by show _ ≤ (0 : Int); omega, by show (0 : Int) ≤ _; omega⟩, Nat.zero_le _, q3⟩, ?_, Nat.zero_le _, hl, hsm⟩
  · exact q1.frame fun g hg => hZ.block g (q2.2 g hg).2 (by have := (q2.2 g hg).1; omega)
  · show Shape k 0 ⟨#[]⟩ ts.length
    rcases hk with rfl | rfl
    · exact .inr (.inr (.inr (.inl ⟨rfl, rfl, rfl, by omega⟩)))
    · exact .inr (.inr (.inr (.inr ⟨rfl, rfl, rfl, by omega⟩)))

theorem wrap_d3 (d : Int) (h0 : 0 ≤ d) (h1 : d ≤ 100) : IntKind.i64.wrap (d - 1) = d - 1 := by rw [IntKind.wrap_i64]; omega
theorem wrap_d4 (d : Int) (h0 : 0 ≤ d) (h1 : d ≤ 100) : wrap64 (d - 1) = d - 1 := by unfold wrap64; omega

set_option maxRecDepth 100000 in
set_option maxHeartbeats 4000000 in
theorem l2Draw_of (m : Nat) (hm : m ≤ 100) (H : ∀ m', m = m' + 1 → DrC m') : DrC m := by
  intro p len cap a zs w hc hr hne hmx
  have HNE : Hid (∀ x, a = some x → 0 < cap → x.block ≠ p) := hne
  have HH : Hid (∀ m', m = m' + 1 → DrC m') := H
  have HROW : Hid (IsRow .u8 w a len cap zs) := hr
  have hp := hc.lt
  obtain ⟨W, hW⟩ : ∃ W, W = w.alloc (.cells #[.int .i64 0, .int .i64 0, .string ⟨#[]⟩, .slice none 0 0] 26) := ⟨_, rfl⟩
  have hg0 : w.grownBy W (some p) := by rw [hW]; exact World.grownBy_alloc w _ (some p)
  have hc0 : Cur W p a len cap := by rw [hW]; exact hc.same (Below.heap_alloc w _ p hp)
  have hr0 := hr.grown hg0 HNE.out
  have hB0 : W.heap[w.heap.size]? = some (.cells #[.int .i64 0, .int .i64 0, .string ⟨#[]⟩, .slice none 0 0] 26 (0, 0)) := by rw [hW]; exact heap_alloc_new w _
  have hz0 : w.heap.size < W.heap.size := by rw [hW]; simp
  have HB := l1Below_any p len cap a zs 8 W hc0 hr0 HNE.out hmx (by omega) (by omega)
  rw [hW] at HB
  have HW : Hid (W = _) := hW
  clear hne hW hc hr hc0 H
  obtain ⟨dp, hdpe⟩ : ∃ dp : Int, (m : Int) = dp := ⟨_, rfl⟩
  have hdp0 : 0 ≤ dp := by omega
  have hdp1 : dp ≤ 100 := by omega
  have HDP : Hid ((m : Int) = dp) := hdpe
  rw [hdpe]
  clear hdpe
  go_enter Try.func24, Try.ntmps24
  go_wp2_with fail
  refine HB.mono ?_
  clear HB
  rintro e w1 ⟨y, hy0, hy1, rfl, hc1, hg1⟩
  rw [← HW.out] at hg1
  have hr1 := hr0.grown hg1 HNE.out
  have hB1 := (hg1.block w.heap.size hz0 (by simp; omega)).trans hB0
  have hz1 : w.heap.size < w1.heap.size := Nat.lt_of_lt_of_le hz0 hg1.size
  have hg2 := grownBy_trans hg0 hg1
  have hp1 := hc1.lt
  clear hr0 hB0 HW hg0 hg1 hz0
  rcases (by omega : (y = 0 ∨ y = 1 ∨ y = 2) ∨ (y = 3 ∨ y = 4) ∨ y = 5 ∨ (y = 6 ∨ y = 7)) with hy | hy | hy | hy
  · have hB1000 := l1Below_any p len cap a zs 1000 w1 hc1 hr1 HNE.out hmx (by omega) (by omega)
    rcases hy with rfl | rfl | rfl
    all_goals
    go_wp2_with fail
    refine hB1000.mono ?_
    clear hB1000
    rintro e w2 ⟨z, hz0, hz999, rfl, hc2, hg3⟩
    have hr2 := hr1.grown hg3 HNE.out
    have hB2 := (hg3.block w.heap.size hz1 (by simp; omega)).trans hB1
    have hz2 : w.heap.size < w2.heap.size := Nat.lt_of_lt_of_le hz1 hg3.size
    have hg4 := grownBy_trans hg2 hg3
    have hp2 := hc2.lt
    clear hc1 hr1 hB1 hg3 hg2
    go_wp2_with fail
    refine (l1Int_any p len cap a zs w2.heap.size 0 8 8 (tmN z) _ (hc2.same (Below.heap_alloc w2 _ _ hp2)) (hr2.grown (World.grownBy_alloc w2 _ (some p)) HNE.out) HNE.out hmx (by omega) rfl (by omega) (by omega) (list_cells w2 (tmN z) _ 3 rfl)).mono ?_
    rintro e w3 ⟨x, hx, rfl, hc3, hg5⟩
    have hxb := tmN_ok z hz0 hz999 x hx
    have HX : Hid (∀ Z, Cur Z p a len cap → w.grownBy Z (some p) → DPost (m + 1) p a len cap w Z (.agg #[.int .i64 1, .int .i64 x, .string ⟨#[]⟩, .slice none 0 0])) := fun Z h1 h2 => dpost_leaf h1 h2 ((shape1 _ _ _).2 ⟨hxb, rfl, rfl⟩) (Nat.zero_le _) (by omega) hxb
    have hres := ((hg5.block w.heap.size (by simp; omega) (by simp; omega)).trans (Below.heap_alloc w2 _ _ hz2)).trans hB2
    have b0 : w3.cell? ⟨w.heap.size, 0, none⟩ = some (.int .i64 0) := by rw [cell_of_row w3 _ 0 _ _ _ hres]; rfl
    have b1 : w3.cell? ⟨w.heap.size, 1, none⟩ = some (.int .i64 0) := by rw [cell_of_row w3 _ 1 _ _ _ hres]; rfl
    have b2 : w3.cell? ⟨w.heap.size, 2, none⟩ = some (.string ⟨#[]⟩) := by rw [cell_of_row w3 _ 2 _ _ _ hres]; rfl
    have b3 : w3.cell? ⟨w.heap.size, 3, none⟩ = some (.slice none 0 0) := by rw [cell_of_row w3 _ 3 _ _ _ hres]; rfl
    have yb0 : w3.frozen? ⟨w.heap.size, 0, none⟩ = false := frozen_of_row w3 _ 0 _ _ hres
    have yb1 : w3.frozen? ⟨w.heap.size, 1, none⟩ = false := frozen_of_row w3 _ 1 _ _ hres
    have yb2 : w3.frozen? ⟨w.heap.size, 2, none⟩ = false := frozen_of_row w3 _ 2 _ _ hres
    have yb3 : w3.frozen? ⟨w.heap.size, 3, none⟩ = false := frozen_of_row w3 _ 3 _ _ hres
    have hwz3 : w.heap.size < w3.heap.size := lt_of_row' hres
    have hg6 : w.grownBy w3 (some p) := grownBy_trans (grownBy_trans hg4 (World.grownBy_alloc w2 _ (some p))) hg5
    clear hx hg4 hg5 hc2 hr2 hres hB2 HH
    go_wp2_with fail
    refine bodyPost_ret (v := .agg #[.int .i64 1, .int .i64 x, .string ⟨#[]⟩, .slice none 0 0]) (by first | (simp [results, Try.results24, go_sem, b0, b1, b2, b3]; done) | (simp [results, Try.results24, go_sem, b0, b1, b2, b3]; rfl)) rfl ⟨1, x, ⟨#[]⟩, none, 0, 0, rfl, HX.out _ ?_ ?_⟩
    · repeat (first | exact hc3 | refine cur_set ?_ (by omega))
    · repeat (first | exact hg6 | refine grown_set ?_ (Nat.le_refl _))
  · rcases hy with rfl | rfl
    all_goals
    go_wp2_with fail
    refine (l1Str_any p len cap a zs w1.heap.size 0 5 5 tmA _ (hc1.same (Below.heap_alloc w1 _ _ hp1)) (hr1.grown (World.grownBy_alloc w1 _ (some p)) HNE.out) HNE.out hmx (by omega) rfl (by omega) (by omega) (list_cellsS w1 tmA _ _ rfl)).mono ?_
    rintro e w3 ⟨x, hx, rfl, hc3, hg5⟩
    have hxb := tmA_ok x hx
    have HX : Hid (∀ Z, Cur Z p a len cap → w.grownBy Z (some p) → DPost (m + 1) p a len cap w Z (.agg #[.int .i64 2, .int .i64 0, .string x, .slice none 0 0])) := fun Z h1 h2 => dpost_leaf h1 h2 hxb.1 hxb.2 (by omega) (by omega)
    have hres := ((hg5.block w.heap.size (by simp; omega) (by simp; omega)).trans (Below.heap_alloc w1 _ _ hz1)).trans hB1
    have b0 : w3.cell? ⟨w.heap.size, 0, none⟩ = some (.int .i64 0) := by rw [cell_of_row w3 _ 0 _ _ _ hres]; rfl
    have b1 : w3.cell? ⟨w.heap.size, 1, none⟩ = some (.int .i64 0) := by rw [cell_of_row w3 _ 1 _ _ _ hres]; rfl
    have b2 : w3.cell? ⟨w.heap.size, 2, none⟩ = some (.string ⟨#[]⟩) := by rw [cell_of_row w3 _ 2 _ _ _ hres]; rfl
    have b3 : w3.cell? ⟨w.heap.size, 3, none⟩ = some (.slice none 0 0) := by rw [cell_of_row w3 _ 3 _ _ _ hres]; rfl
    have yb0 : w3.frozen? ⟨w.heap.size, 0, none⟩ = false := frozen_of_row w3 _ 0 _ _ hres
    have yb1 : w3.frozen? ⟨w.heap.size, 1, none⟩ = false := frozen_of_row w3 _ 1 _ _ hres
    have yb2 : w3.frozen? ⟨w.heap.size, 2, none⟩ = false := frozen_of_row w3 _ 2 _ _ hres
    have yb3 : w3.frozen? ⟨w.heap.size, 3, none⟩ = false := frozen_of_row w3 _ 3 _ _ hres
    have hwz3 : w.heap.size < w3.heap.size := lt_of_row' hres
    have hg6 : w.grownBy w3 (some p) := grownBy_trans (grownBy_trans hg2 (World.grownBy_alloc w1 _ (some p))) hg5
    clear hx hg2 hg5 hc1 hr1 hres hB1 HH
    go_wp2_with fail
    refine bodyPost_ret (v := .agg #[.int .i64 2, .int .i64 0, .string x, .slice none 0 0]) (by first | (simp [results, Try.results24, go_sem, b0, b1, b2, b3]; done) | (simp [results, Try.results24, go_sem, b0, b1, b2, b3]; rfl)) rfl ⟨2, 0, x, none, 0, 0, rfl, HX.out _ ?_ ?_⟩
    · repeat (first | exact hc3 | refine cur_set ?_ (by omega))
    · repeat (first | exact hg6 | refine grown_set ?_ (Nat.le_refl _))
  · subst hy
    have hB5 := l1Below_any p len cap a zs 5 w1 hc1 hr1 HNE.out hmx (by omega) (by omega)
    go_wp2_with fail
    refine hB5.mono ?_
    clear hB5
    rintro e w3 ⟨x, hx0, hx5, rfl, hc3, hg5⟩
    have HX : Hid (∀ Z, Cur Z p a len cap → w.grownBy Z (some p) → DPost (m + 1) p a len cap w Z (.agg #[.int .i64 3, .int .i64 x, .string ⟨#[]⟩, .slice none 0 0])) := fun Z h1 h2 => dpost_leaf h1 h2 (.inr (.inr (.inl ⟨rfl, ⟨by omega, by omega⟩, rfl, rfl⟩))) (Nat.zero_le _) (by omega) (by omega)
    have hres := (hg5.block w.heap.size hz1 (by simp; omega)).trans hB1
    have b0 : w3.cell? ⟨w.heap.size, 0, none⟩ = some (.int .i64 0) := by rw [cell_of_row w3 _ 0 _ _ _ hres]; rfl
    have b1 : w3.cell? ⟨w.heap.size, 1, none⟩ = some (.int .i64 0) := by rw [cell_of_row w3 _ 1 _ _ _ hres]; rfl
    have b2 : w3.cell? ⟨w.heap.size, 2, none⟩ = some (.string ⟨#[]⟩) := by rw [cell_of_row w3 _ 2 _ _ _ hres]; rfl
    have b3 : w3.cell? ⟨w.heap.size, 3, none⟩ = some (.slice none 0 0) := by rw [cell_of_row w3 _ 3 _ _ _ hres]; rfl
    have yb0 : w3.frozen? ⟨w.heap.size, 0, none⟩ = false := frozen_of_row w3 _ 0 _ _ hres
    have yb1 : w3.frozen? ⟨w.heap.size, 1, none⟩ = false := frozen_of_row w3 _ 1 _ _ hres
    have yb2 : w3.frozen? ⟨w.heap.size, 2, none⟩ = false := frozen_of_row w3 _ 2 _ _ hres
    have yb3 : w3.frozen? ⟨w.heap.size, 3, none⟩ = false := frozen_of_row w3 _ 3 _ _ hres
    have hwz3 : w.heap.size < w3.heap.size := lt_of_row' hres
    have hg6 : w.grownBy w3 (some p) := grownBy_trans hg2 hg5
    clear hg2 hg5 hc1 hr1 hres hB1 HH
    go_wp2_with fail
    refine bodyPost_ret (v := .agg #[.int .i64 3, .int .i64 x, .string ⟨#[]⟩, .slice none 0 0]) (by first | (simp [results, Try.results24, go_sem, b0, b1, b2, b3]; done) | (simp [results, Try.results24, go_sem, b0, b1, b2, b3]; rfl)) rfl ⟨3, x, ⟨#[]⟩, none, 0, 0, rfl, HX.out _ ?_ ?_⟩
    · repeat (first | exact hc3 | refine cur_set ?_ (by omega))
    · repeat (first | exact hg6 | refine grown_set ?_ (Nat.le_refl _))
  · rcases hy with rfl | rfl
    all_goals
    go_wp2_with fail
    refine (l1Int_any p len cap a zs w1.heap.size 0 2 2 [4, 5] _ (hc1.same (Below.heap_alloc w1 _ _ hp1)) (hr1.grown (World.grownBy_alloc w1 _ (some p)) HNE.out) HNE.out hmx (by omega) rfl (by omega) (by omega) (list_cells w1 [4, 5] _ 3 rfl)).mono ?_
    rintro e w2 ⟨k, hk, rfl, hc2, hg3⟩
    have hk45 : k = 4 ∨ k = 5 := by simpa using hk
    have hr2 := (hr1.grown (World.grownBy_alloc w1 _ (some p)) HNE.out).grown hg3 HNE.out
    have hB2 := ((hg3.block w.heap.size (by simp; omega) (by simp; omega)).trans (Below.heap_alloc w1 _ _ hz1)).trans hB1
    have hg4 : w.grownBy w2 (some p) := grownBy_trans (grownBy_trans hg2 (World.grownBy_alloc w1 _ (some p))) hg3
    have hz2 : w.heap.size < w2.heap.size := lt_of_row' hB2
    have hp2 := hc2.lt
    clear hk hc1 hr1 hB1 hg2 hg3
    obtain ⟨V, hV⟩ : ∃ V, V = w2.alloc (.cells #[.int .i64 k, .int .i64 0, .string ⟨#[]⟩, .slice none 0 0] 26) := ⟨_, rfl⟩
    have hgV : w2.grownBy V (some p) := by rw [hV]; exact World.grownBy_alloc w2 _ (some p)
    have hcV : Cur V p a len cap := by rw [hV]; exact hc2.same (Below.heap_alloc w2 _ p hp2)
    have hrV := hr2.grown hgV HNE.out
    have hBV : V.heap[w.heap.size]? = some (.cells #[.int .i64 0, .int .i64 0, .string ⟨#[]⟩, .slice none 0 0] 26 (0, 0)) := by rw [hV]; exact (Below.heap_alloc w2 _ _ hz2).trans hB2
    have hTV : V.heap[w2.heap.size]? = some (.cells #[.int .i64 k, .int .i64 0, .string ⟨#[]⟩, .slice none 0 0] 26 (0, 0)) := by rw [hV]; exact heap_alloc_new w2 _
    have hzV : w2.heap.size < V.heap.size := by rw [hV]; simp
    have hB4 := l1Below_any p len cap a zs 4 V hcV hrV HNE.out hmx (by omega) (by omega)
    rw [hV] at hB4
    have HV : Hid (V = _) := hV
    clear hV hcV hc2 hr2 hB2
    go_wp2_with fail
    refine hB4.mono ?_
    clear hB4
    rintro e w3 ⟨z, hz0, hz3, rfl, hc3, hg5⟩
    rw [← HV.out] at hg5
    obtain ⟨zn, rfl⟩ := Int.eq_ofNat_of_zero_le hz0
    obtain ⟨T, hT⟩ : ∃ T, w2.heap.size = T := ⟨_, rfl⟩
    rw [hT] at hTV hzV hz2 ⊢
    have HM0 : Hid (DMid m p a len cap w w3 T k 0) := ⟨none, 0, 0, (hg5.block _ (by omega) (by simp; omega)).trans hBV, (hg5.block _ (by omega) (by simp; omega)).trans hTV, hc3, grownBy_trans (grownBy_trans hg4 hgV) hg5, [], [], rfl, made_nil m _ _, fun u h => by cases h⟩
    have HIR : Hid (IsRow .u8 w3 a len cap zs) := hrV.grown hg5 HNE.out
    have HG3 : Hid (w.grownBy w3 (some p)) := grownBy_trans (grownBy_trans hg4 hgV) hg5
    clear hgV hrV hBV hTV HV hg4 hg5 hc3
    go_wp2_with fail
    go_loopw [6] (fun i wr => ∃ (q j : Nat), q + j = zn ∧ i = .int .i64 q ∧ Hid (DMid m p a len cap w wr T k j) ∧ Hid (IsRow .u8 wr a len cap zs)) (fun i _ => (intOf i).toNat)
    case atStart => exact ⟨zn, 0, by omega, rfl, HM0, HIR⟩
    case round =>
      obtain ⟨q, j, hq, rfl, HM, HI⟩ := hrel
      obtain ⟨av, l, c, hR, hTT, hcw, hgw, ts, fp, hj, hMd, hsm⟩ := HM.out
      obtain ⟨cs, hcs⟩ := made_row hMd
      rw [hj] at hcs
      have hTz : T < wr.heap.size := lt_of_row' hTT
      clear HM0 HIR HG3 HM
      by_cases hlt : 0 < q ∧ 0 < dp
      · obtain ⟨hq0, hd0⟩ := hlt
        have hq0' : (0 : Int) < (q : Int) := by omega
        obtain ⟨m', hm'⟩ : ∃ m', m = m' + 1 := ⟨m - 1, by have := HDP.out; omega⟩
        have hC := HH.out m' hm' p len cap a zs wr.drew (hcw.same rfl) (HROW.out.grown ⟨hgw.os, hgw.tape, hgw.output, hgw.size, hgw.block⟩ HNE.out) HNE.out hmx
        have hdm : (m' : Int) = dp - 1 := by have := HDP.out; omega
        have HAFT : Hid (∀ w' k2 x2 s2 a2 l2 c2, Hid (DPost (m' + 1) p a len cap wr.drew w' (.agg #[.int .i64 k2, .int .i64 x2, .string s2, .slice a2 l2 c2])) → _) := fun w' k2 x2 s2 a2 l2 c2 h => dmid_aft (w := w) (wr := wr.drew) (w' := w') (k2 := k2) (x2 := x2) (s2 := s2) (a2 := a2) (l2 := l2) (c2 := c2) hp hz2 hTz hR hTT ⟨hgw.os, hgw.tape, hgw.output, hgw.size, hgw.block⟩ hj (by omega) (hMd.frame (fun g _ => rfl) (Nat.le_refl _)) hsm (rowKept hcs fun _ _ => rfl) HROW.out HNE.out (by rw [hm']; exact h.out)
        rw [hdm] at hC
        clear hdm hm'
        obtain ⟨i0, hi, hi0, hi1, hi2⟩ := info_parts Try.infoTerm
        have hjn : j ≤ 4 := by omega
        have t3 : wr.cell? ⟨T, 3, none⟩ = some (.slice av l c) := by rw [cell_of_row wr _ 3 _ _ _ hTT]; rfl
        clear hR hTT hMd hcs hcw hgw hsm HI
        have HW3 : Hid (IntKind.i64.wrap (dp - 1) = dp - 1) := wrap_d3 dp (by omega) (by omega)
        have HW4 : Hid (wrap64 (dp - 1) = dp - 1) := wrap_d4 dp (by omega) (by omega)
        go_wp2_with fail
        have hw3 := HW3.out
        have hw4 := HW4.out
        go_region_law (first
          | (refine step_append_own rfl (.tmp 46) (.tmp 51) 24 rfl (T + 1) 26 i0 (.agg #[.int .i64 0, .int .i64 0, .string ⟨#[]⟩, .slice none 0 0]) 4 56 Try.underlying24 hi hi0 hi1 hi2 rfl (by decide) (.slice av l c) j cs (by simp [Act.eval]) (hcs'.alloc _) ⟨w'.heap.size, 0, none⟩ 1 1 [.int .i64 k2, .int .i64 x2, .string s2, .slice a2 l2 c2] (by simp [Act.eval]) rfl (four_new w' _ _ _ _ _) (by intro u hu; simp at hu; rcases hu with rfl | rfl | rfl | rfl <;> rfl) (by unfold maxLen; omega) (by omega) (by simp; omega) ?_; intro v' w2 hown2 hgrow2 hat; obtain ⟨av2, lv, cv, rfl⟩ := row_slice hown2; obtain ⟨v3, v3', HM2, HI2⟩ := HA.out w2 av2 lv cv hown2 hgrow2 hat)
          | (go_simp; go_at_call 24; refine hC.mono ?_; rintro e w' ⟨k2, x2, s2, a2, l2, c2, rfl, HP0⟩; obtain ⟨t3', hTz', hcs', HA⟩ := HAFT.out w' k2 x2 s2 a2 l2 c2 HP0))
        all_goals
          clear hown2 hgrow2 hat HA hcs'
          go_wp2_with fail
          go_roundw
          case rel => exact ⟨q - 1, j + 1, by omega, by go_num, HM2, HI2⟩
          case measure => simp [intOf]; omega
      · have hcase : ¬ 0 < q ∨ (0 < q ∧ ¬ 0 < dp) := by
          by_cases h : 0 < q
          · exact .inr ⟨h, fun h2 => hlt ⟨h, h2⟩⟩
          · exact .inl h
        have HF : Hid (∀ Z, Turned w.heap.size wr Z → DPost (m + 1) p a len cap w Z (.agg #[.int .i64 k, .int .i64 0, .string ⟨#[]⟩, .slice av l c])) := fun Z hZ => dpost_list hMd hsm hk45 (by omega) hcw hgw hp hz2 hZ
        have b0 : wr.cell? ⟨w.heap.size, 0, none⟩ = some (.int .i64 0) := by rw [cell_of_row wr _ 0 _ _ _ hR]; rfl
        have b1 : wr.cell? ⟨w.heap.size, 1, none⟩ = some (.int .i64 0) := by rw [cell_of_row wr _ 1 _ _ _ hR]; rfl
        have b2 : wr.cell? ⟨w.heap.size, 2, none⟩ = some (.string ⟨#[]⟩) := by rw [cell_of_row wr _ 2 _ _ _ hR]; rfl
        have b3 : wr.cell? ⟨w.heap.size, 3, none⟩ = some (.slice none 0 0) := by rw [cell_of_row wr _ 3 _ _ _ hR]; rfl
        have yb0 : wr.frozen? ⟨w.heap.size, 0, none⟩ = false := frozen_of_row wr _ 0 _ _ hR
        have yb1 : wr.frozen? ⟨w.heap.size, 1, none⟩ = false := frozen_of_row wr _ 1 _ _ hR
        have yb2 : wr.frozen? ⟨w.heap.size, 2, none⟩ = false := frozen_of_row wr _ 2 _ _ hR
        have yb3 : wr.frozen? ⟨w.heap.size, 3, none⟩ = false := frozen_of_row wr _ 3 _ _ hR
        have t0 : wr.cell? ⟨T, 0, none⟩ = some (.int .i64 k) := by rw [cell_of_row wr _ 0 _ _ _ hTT]; rfl
        have t1 : wr.cell? ⟨T, 1, none⟩ = some (.int .i64 0) := by rw [cell_of_row wr _ 1 _ _ _ hTT]; rfl
        have t2 : wr.cell? ⟨T, 2, none⟩ = some (.string ⟨#[]⟩) := by rw [cell_of_row wr _ 2 _ _ _ hTT]; rfl
        have t3 : wr.cell? ⟨T, 3, none⟩ = some (.slice av l c) := by rw [cell_of_row wr _ 3 _ _ _ hTT]; rfl
        clear hR hTT hMd hcs hsm hcw hgw hlt HI HH
        rcases hcase with h1 | ⟨h1, h2⟩
        · obtain rfl : q = 0 := by omega
          clear h1
          go_wp2_with fail
          refine bodyPost_ret (v := .agg #[.int .i64 k, .int .i64 0, .string ⟨#[]⟩, .slice av l c]) (by first | (simp [results, Try.results24, go_sem, b0, b1, b2, b3]; done) | (simp [results, Try.results24, go_sem, b0, b1, b2, b3]; rfl)) rfl ⟨k, 0, ⟨#[]⟩, av, l, c, rfl, HF.out _ ?_⟩
          repeat (first | exact Turned.refl _ _ | refine Turned.trans ?_ (Turned.of_set _ _ _ _))
        · obtain rfl : dp = 0 := by omega
          have hq0' : (0 : Int) < (q : Int) := by omega
          clear h2
          go_wp2_with fail
          refine bodyPost_ret (v := .agg #[.int .i64 k, .int .i64 0, .string ⟨#[]⟩, .slice av l c]) (by first | (simp [results, Try.results24, go_sem, b0, b1, b2, b3]; done) | (simp [results, Try.results24, go_sem, b0, b1, b2, b3]; rfl)) rfl ⟨k, 0, ⟨#[]⟩, av, l, c, rfl, HF.out _ ?_⟩
          repeat (first | exact Turned.refl _ _ | refine Turned.trans ?_ (Turned.of_set _ _ _ _))

theorem l2Draw_any : ∀ m, m ≤ 100 → DrC m := by
  intro m
  induction m with
  | zero => intro h; exact l2Draw_of 0 h (fun m' e => by omega)
  | succ m ih => intro h; exact l2Draw_of (m + 1) h (fun m' e => by obtain rfl : m = m' := by omega
                                                                    exact ih (by omega))

end Go.Proofs.Ytbllnmafilabpaa
