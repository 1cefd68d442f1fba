/- A draw of a term for the counts: the walk. -/
import Derived.Test.YthjmbbpakidkdaaBd3
namespace Go.Proofs.Ythjmbbpakidkdaa
open Go.RowKit
set_option linter.unusedVariables false

set_option maxRecDepth 100000 in
set_option maxHeartbeats 2000000 in
theorem drawTermOk_any (a : Option Addr) (len cap : Nat) (zs : List Int) (w : World) (hr : IsRow .u8 w a len cap zs) (hm : len ≤ 1048576) :
    Calls Try.prog 84 #[.slice a len cap] w fun e w' => ∃ k n s av lv cv, e = .returned (.agg #[.int .i64 k, .int .i64 n, .string s, .slice av lv cv]) ∧ Hid (AnyT w' w.heap.size k n s (.slice av lv cv) 200 ∧ Below w.heap.size w w') := by
  obtain ⟨W1, hW1⟩ : ∃ W, W = w.alloc (.cells #[.int .i64 0, .int .i64 0, .string ⟨#[]⟩, .slice none 0 0] 26) := ⟨_, rfl⟩
  have hz1 : W1.heap.size = w.heap.size + 1 := by rw [hW1]; simp
  have hb1 : Below w.heap.size w W1 := by rw [hW1]; exact (Below.refl _ _).alloc (Nat.le_refl _) _
  have n1 : W1.heap[w.heap.size]? = some (.cells #[.int .i64 0, .int .i64 0, .string ⟨#[]⟩, .slice none 0 0] 26 (0, 0)) := by rw [hW1]; exact heap_alloc_new w _
  have hr1 := hr.later hb1
  have hne : ∀ x, a = some x → 0 < cap → x.block ≠ w.heap.size + 1 := by rw [← hz1]; exact isRow_old hr1
  have hN := l1New_any a len cap zs W1 hr1 (by omega)
  rw [hz1] at hN
  rw [hW1] at hN
  have HNE : Hid (∀ x, a = some x → 0 < cap → x.block ≠ w.heap.size + 1) := hne
  have HW1 : Hid (W1 = _) := hW1
  clear hW1 hne
  go_enter Try.func84, Try.ntmps84
  go_wp2_with fail
  refine hN.mono ?_
  clear hN
  rintro e w2 ⟨rfl, hc2, hb2⟩
  rw [← HW1.out] at hb2
  have hb2' : Below W1.heap.size W1 w2 := by rw [hz1]; exact hb2
  have n2 := (hb2.block _ (by omega)).trans n1
  have hbw2 : Below w.heap.size w w2 := hb1.trans (hb2'.mono hb1.size)
  have hr2 := hr1.later hb2'
  have hO := l1OnceT_any (w.heap.size + 1) len cap a zs 40 w2 hc2 hr2 HNE.out (by omega) (by omega) (by omega)
  clear hr1 hb2 hb2' hb1 n1 HW1
  go_wp2_with fail
  refine hO.mono ?_
  clear hO
  rintro e w3 ⟨b, rfl, hc3, hg3⟩
  have hz2 := lt_of_row' n2
  have n3 := (hg3.block _ hz2 (by simp)).trans n2
  have hbw3 : Below w.heap.size w w3 := hbw2.trans (grown_below hg3 (by omega) hbw2.size)
  have hr3 := hr2.grown hg3 HNE.out
  have hp3 := hc3.lt
  have hz3 := lt_of_row' n3
  clear hc2 hr2 hg3 hbw2 n2 hz2
  cases b
  · have hA := l2Any_any (w.heap.size + 1) len cap a zs w3 hc3 hr3 HNE.out (by omega)
    go_wp2_with fail
    refine hA.mono ?_
    clear hA
    rintro e w4 ⟨k, n, s, av, lv, cv, rfl, HP⟩
    obtain ⟨hA4, hc4, hg4⟩ := HP.out
    have n4 := (hg4.block _ hz3 (by simp)).trans n3
    have hbw4 : Below w.heap.size w w4 := hbw3.trans (grown_below hg4 (by omega) hbw3.size)
    have HF : Hid (∀ Z, Turned w.heap.size w4 Z → AnyT Z w.heap.size k n s (.slice av lv cv) 200 ∧ Below w.heap.size w Z) := fun Z hZ => ⟨(hA4.frame (fun g h1 h2 => hZ.block g h2 (by omega)) hZ.size).low (by omega), hbw4.trans (hZ.below (Nat.le_refl _) hbw4.size)⟩
    obtain ⟨r0, r1, r2, r3, v0, v1, v2, v3⟩ := four_cells n4
    have hz4 := lt_of_row' n4
    clear hA4 hc4 hg4 n4 hbw4 HP n3 hc3 hr3 hbw3
    go_wp2_with fail
    refine bodyPost_ret (v := .agg #[.int .i64 k, .int .i64 n, .string s, .slice av lv cv]) (by first | (simp [results, Try.results84, go_sem, r0, r1, r2, r3]; done) | (simp [results, Try.results84, go_sem, r0, r1, r2, r3]; rfl)) rfl ⟨k, n, s, _, _, _, rfl, HF.out _ ?_⟩
    repeat (first | exact Turned.refl _ _ | refine Turned.trans ?_ (Turned.of_set _ _ _ _))
  · obtain ⟨V, hV⟩ : ∃ V, V = w3.alloc (.cells #[.int .i64 5, .int .i64 0, .string ⟨#[]⟩, .slice none 0 0] 26) := ⟨_, rfl⟩
    have hbV : Below w3.heap.size w3 V := by rw [hV]; exact (Below.refl _ _).alloc (Nat.le_refl _) _
    have nV : V.heap[w3.heap.size]? = some (.cells #[.int .i64 5, .int .i64 0, .string ⟨#[]⟩, .slice none 0 0] 26 (0, 0)) := by rw [hV]; exact heap_alloc_new w3 _
    have H0 : Hid (LMid w V w3.heap.size 0 a len cap (.slice none 0 0)) := ⟨(hbV.block _ hz3).trans n3, nV, hc3.same (hbV.block _ hp3), hbw3.trans (hbV.mono hbw3.size), [], made_nil 1 _ _⟩
    rw [hV] at H0
    obtain ⟨T, hT⟩ : ∃ T, w3.heap.size = T := ⟨_, rfl⟩
    rw [hT] at H0 hp3
    have HR : Hid (IsRow .u8 w a len cap zs) := hr
    have hT' := hT
    clear hV hbV nV n3 hc3 hbw3 hr3
    go_wp2_with fail
    go_loopw [5] (fun i wr => ∃ (j : Nat) (av : Option Addr) (lv cv : Nat), j ≤ 61 ∧ i = .int .i64 j ∧ Hid (LMid w wr T j a len cap (.slice av lv cv))) (fun i _ => 61 - (intOf i).toNat)
    case atStart => exact ⟨0, none, 0, 0, by omega, rfl, H0⟩
    case round =>
      obtain ⟨j, av, lv, cv, hj, rfl, HJ⟩ := hrel
      have hB := l1Below_any (w.heap.size + 1) len cap a zs 2 wr HJ.out.cur (HR.out.later HJ.out.bel) HNE.out (by omega) (by omega) (by omega)
      clear H0
      go_wp2_with fail
      refine hB.mono ?_
      clear hB
      rintro e V ⟨z, hz0, hz1', rfl, hcV, hgV⟩
      have HV : Hid (LMid w V T j a len cap (.slice av lv cv)) := HJ.out.later (by omega) hgV hcV
      clear HJ hcV hgV
      have hzV := lt_of_row' HV.out.box
      have hzVR := lt_of_row' HV.out.res
      obtain ⟨x0, x1, x2, x3, y0, y1, y2, y3⟩ := four_cells HV.out.box
      obtain ⟨r0, r1, r2, r3, v0, v1, v2, v3⟩ := four_cells HV.out.res
      by_cases hlt : (j : Int) < 60 + z
      · obtain ⟨fp, hM⟩ := HV.out.made
        obtain ⟨cs, hcs⟩ := made_row hM
        rw [List.length_replicate] at hcs
        have HCS : Hid (V.ownsRow (T + 1) 26 4 (.slice av lv cv) j cs) := hcs
        have hj60 : j ≤ 60 := by omega
        obtain ⟨i0, hi, hi0, hi1, hi2⟩ := info_parts Try.infoTerm
        clear hM hcs
        go_wp2_with (first | (at_builtin; refine wpList_append_own_at _ rfl _ _ 24 rfl (T + 1) 26 i0 (.agg #[.int .i64 0, .int .i64 0, .string ⟨#[]⟩, .slice none 0 0]) 4 56 Try.underlying24 hi hi0 hi1 hi2 rfl (by decide) _ _ _ rfl (HCS.out.alloc _) ⟨V.heap.size, 0, none⟩ 1 1 [.int .i64 1, .int .i64 0, .string ⟨#[]⟩, .slice none 0 0] rfl rfl (four_new V _ _ _ _ _) (by intro u hu; simp at hu; rcases hu with rfl | rfl | rfl | rfl <;> rfl) (by unfold maxLen; omega) (by omega) (by simp; omega) ?_; intro v' w4 hown4 hgrow4 _ hat4; obtain ⟨av4, lv4, cv4, rfl⟩ := row_slice hown4; obtain ⟨k0, hL⟩ := HV.out.step (by omega) (by omega) HCS.out hown4 hgrow4 hat4; have HL4 : Hid (LMid w (w4.setCell ⟨T, 3, none⟩ (.slice av4 lv4 cv4)) T (j + 1) a len cap (.slice av4 lv4 cv4)) := hL; clear hL x0 x1 x2 x3 y0 y1 y2 y3 r0 r1 r2 r3 v0 v1 v2 v3 hown4 hgrow4 hat4; obtain ⟨x0, x1, x2, x3, y0, y1, y2, y3⟩ := four_cells k0; clear k0) | go_in)
        go_roundw
        case rel => exact ⟨j + 1, av4, lv4, cv4, by omega, by go_num, HL4⟩
        case measure => simp [intOf]; omega
      · have hlt' : decide ((j : Int) < 60 + z) = false := by simp; omega
        have HF : Hid (∀ Z, Turned w.heap.size V Z → AnyT Z w.heap.size 5 0 ⟨#[]⟩ (.slice av lv cv) 200 ∧ Below w.heap.size w Z) := fun Z hZ => HV.out.fin (by omega) (by omega) hZ
        go_wp2_with fail
        refine bodyPost_ret (v := .agg #[.int .i64 5, .int .i64 0, .string ⟨#[]⟩, .slice av lv cv]) (by first | (simp [results, Try.results84, go_sem, r0, r1, r2, r3]; done) | (simp [results, Try.results84, go_sem, r0, r1, r2, r3]; rfl)) rfl ⟨5, 0, ⟨#[]⟩, _, _, _, rfl, HF.out _ ?_⟩
        repeat (first | exact Turned.refl _ _ | refine Turned.trans ?_ (Turned.of_set _ _ _ _))

theorem drawCountOf_any (a : Option Addr) (len cap : Nat) (zs : List Int) (w : World) (hr : IsRow .u8 w a len cap zs) (hm : len ≤ 1048576) :
    Calls Try.prog 35 #[.slice a len cap] w fun e w' => ∃ k n s av lv cv, e = .returned (.agg #[.int .i64 k, .int .i64 n, .string s, .slice av lv cv]) ∧ Hid (AnyT w' w.heap.size k n s (.slice av lv cv) 200 ∧ Below w.heap.size w w') := by
  obtain ⟨W1, hW1⟩ : ∃ W, W = w.alloc (.cells #[.int .i64 0, .int .i64 0, .string ⟨#[]⟩, .slice none 0 0] 26) := ⟨_, rfl⟩
  have hz1 : W1.heap.size = w.heap.size + 1 := by rw [hW1]; simp
  have hb1 : Below w.heap.size w W1 := by rw [hW1]; exact (Below.refl _ _).alloc (Nat.le_refl _) _
  have n1 : W1.heap[w.heap.size]? = some (.cells #[.int .i64 0, .int .i64 0, .string ⟨#[]⟩, .slice none 0 0] 26 (0, 0)) := by rw [hW1]; exact heap_alloc_new w _
  have hD := drawTermOk_any a len cap zs W1 (hr.later hb1) hm
  rw [hW1] at hD
  have HW1 : Hid (W1 = _) := hW1
  clear hW1
  go_enter Try.func35, Try.ntmps35
  go_wp2_with fail
  refine hD.mono ?_
  clear hD
  rintro e w4 ⟨k, n, s, av, lv, cv, rfl, HP⟩
  rw [← HW1.out] at HP
  obtain ⟨hA4, hb4⟩ := HP.out
  have n4 := (hb4.block _ (by omega)).trans n1
  have hbw4 : Below w.heap.size w w4 := hb1.trans (hb4.mono hb1.size)
  have HF : Hid (∀ Z, Turned w.heap.size w4 Z → AnyT Z w.heap.size k n s (.slice av lv cv) 200 ∧ Below w.heap.size w Z) := fun Z hZ => ⟨(hA4.frame (fun g h1 h2 => hZ.block g h2 (by omega)) hZ.size).low (by omega), hbw4.trans (hZ.below (Nat.le_refl _) hbw4.size)⟩
  obtain ⟨r0, r1, r2, r3, v0, v1, v2, v3⟩ := four_cells n4
  have hz4 := lt_of_row' n4
  clear hA4 hb4 n4 hbw4 HP n1 hb1 HW1
  go_wp2_with fail
  refine bodyPost_ret (v := .agg #[.int .i64 k, .int .i64 n, .string s, .slice av lv cv]) (by first | (simp [results, Try.results35, go_sem, r0, r1, r2, r3]; done) | (simp [results, Try.results35, go_sem, r0, r1, r2, r3]; rfl)) rfl ⟨k, n, s, _, _, _, rfl, HF.out _ ?_⟩
  repeat (first | exact Turned.refl _ _ | refine Turned.trans ?_ (Turned.of_set _ _ _ _))

end Go.Proofs.Ythjmbbpakidkdaa
