/- The model's GetTerm: the term that has these bytes and is right, or none. -/
import Derived.Test.YthjmbbpakidkdaaSGetM
namespace Go.Proofs.Ythjmbbpakidkdaa
open Go.RowKit
set_option linter.unusedVariables false

set_option maxHeartbeats 2000000 in
theorem specGetTerm_any (b off n cap : Nat) (zs : List Int) (w : World) (hB : Bts n cap zs) (hbz : b < w.heap.size) (hrow : ∀ i, i < n → w.cell? ⟨b, off + i, none⟩ = some (.int .u8 (zs.getD i 0))) :
    Calls Try.prog 26 #[.slice (some ⟨b, off, none⟩) n cap] w fun e w' => ∃ k x s a l c ok, e = .returned (.tuple #[.agg #[.int .i64 k, .int .i64 x, .string s, .slice a l c], .bool ok]) ∧ GPost zs n w w' k x s a l c ok := by
  obtain ⟨V, hV⟩ : ∃ V, V = w.alloc (.cells #[.int .i64 0, .int .i64 0, .string ⟨#[]⟩, .slice none 0 0] 26) := ⟨_, rfl⟩
  have hVz : V.heap.size = w.heap.size + 1 := by rw [hV]; simp
  have hwV : Below w.heap.size w V := by rw [hV]; exact (Below.refl _ _).alloc (Nat.le_refl _) _
  have hV0 : V.heap[w.heap.size]? = some (.cells #[.int .i64 0, .int .i64 0, .string ⟨#[]⟩, .slice none 0 0] 26 (0, 0)) := by rw [hV]; exact heap_alloc_new w _
  have hC := specGet_any 8 (by omega) b off n cap zs 0 V hB (fun i hi => cell_later hwV (hrow i hi))
  rw [show ((8 : Nat) : Int) = 8 from rfl, hV] at hC
  have HV : Hid (V = _) := hV
  clear hV hrow
  go_enter Try.func26, Try.ntmps26
  go_wp2_with fail
  refine hC.mono ?_
  clear hC
  rintro e w1 ⟨k, x, s, a, l, c, at', ok1, rfl, hP0⟩
  rw [← HV.out] at hP0
  obtain ⟨h2, h3, h4⟩ := hP0.out
  clear hP0
  obtain ⟨w2, hw2⟩ : ∃ w2, w2 = w1.alloc (.cells #[.int .i64 k, .int .i64 x, .string s, .slice a l c] 26) := ⟨_, rfl⟩
  have h12 : Below w1.heap.size w1 w2 := by rw [hw2]; exact (Below.refl _ _).alloc (Nat.le_refl _) _
  have hz2 : w2.heap.size = w1.heap.size + 1 := by rw [hw2]; simp
  have hz1 : V.heap.size ≤ w1.heap.size := h2.size
  have hwb1 : Below w.heap.size w w1 := hwV.trans (h2.mono hwV.size)
  have hwb2 : Below w.heap.size w w2 := hwb1.trans (h12.mono hwb1.size)
  have hRes : w2.heap[w.heap.size]? = some (.cells #[.int .i64 0, .int .i64 0, .string ⟨#[]⟩, .slice none 0 0] 26 (0, 0)) := (h12.block _ (by omega)).trans ((h2.block _ (by omega)).trans hV0)
  have hT2 : w2.heap[w1.heap.size]? = some (.cells #[.int .i64 k, .int .i64 x, .string s, .slice a l c] 26 (0, 0)) := by rw [hw2]; exact heap_alloc_new w1 _
  have b0 : w2.cell? ⟨w.heap.size, 0, none⟩ = some (.int .i64 0) := by rw [cell_of_row w2 _ 0 _ _ _ hRes]; rfl
  have b1 : w2.cell? ⟨w.heap.size, 1, none⟩ = some (.int .i64 0) := by rw [cell_of_row w2 _ 1 _ _ _ hRes]; rfl
  have b2 : w2.cell? ⟨w.heap.size, 2, none⟩ = some (.string ⟨#[]⟩) := by rw [cell_of_row w2 _ 2 _ _ _ hRes]; rfl
  have b3 : w2.cell? ⟨w.heap.size, 3, none⟩ = some (.slice none 0 0) := by rw [cell_of_row w2 _ 3 _ _ _ hRes]; rfl
  have y0 : w2.frozen? ⟨w.heap.size, 0, none⟩ = false := frozen_of_row w2 _ 0 _ _ hRes
  have y1 : w2.frozen? ⟨w.heap.size, 1, none⟩ = false := frozen_of_row w2 _ 1 _ _ hRes
  have y2 : w2.frozen? ⟨w.heap.size, 2, none⟩ = false := frozen_of_row w2 _ 2 _ _ hRes
  have y3 : w2.frozen? ⟨w.heap.size, 3, none⟩ = false := frozen_of_row w2 _ 3 _ _ hRes
  have HW2 : Hid (w2 = _) := hw2
  have HO : Hid (Bts n cap zs) := hB
  rw [hw2] at b0 b1 b2 b3 y0 y1 y2 y3
  clear HV hB hV0
  by_cases hbad : ok1 = false
  · subst hbad
    have hN : getT zs 8 0 = none := h4 rfl
    have HF : Hid (∀ Z, Turned w.heap.size (w1.alloc (.cells #[.int .i64 k, .int .i64 x, .string s, .slice a l c] 26)) Z → GPost zs n w Z 0 0 ByteArray.empty none 0 0 false) := fun Z hZ => by
      rw [← HW2.out] at hZ
      exact gpost_no hwb2 (Nat.le_refl _) hZ (fun ⟨t, ht, _⟩ => by rw [hN] at ht; cases ht)
    clear h3 h4 hN hw2 hRes hT2 HW2
    go_wp2_with fail
    refine bodyPost_ret (v := .tuple #[.agg #[.int .i64 0, .int .i64 0, .string ByteArray.empty, .slice none 0 0], .bool false]) (by first | (simp [results, Try.results26, go_sem, b0, b1, b2, b3]; done) | (simp [results, Try.results26, go_sem, b0, b1, b2, b3]; rfl)) rfl ⟨0, 0, ByteArray.empty, none, 0, 0, false, rfl, HF.out _ ?_⟩
    exact (((Turned.of_set _ _ _ _).trans (Turned.of_set _ _ _ _)).trans (Turned.of_set _ _ _ _)).trans (Turned.of_set _ _ _ _)
  have hbf : ok1 = true := by simpa using hbad
  subst hbf
  obtain ⟨t, fp, q1, q2, q3, q4, q5, q6⟩ := h3 rfl
  obtain ⟨a', l', c', ev, q1⟩ := q1
  simp only [Value.agg.injEq] at ev
  have ev2 : ([.int .i64 k, .int .i64 x, .string s, .slice a l c] : List Value) = [.int .i64 t.K, .int .i64 t.N, .string t.S, .slice a' l' c'] := by simpa using congrArg Array.toList ev
  simp only [List.cons.injEq, Value.int.injEq, Value.string.injEq, Value.slice.injEq, true_and, and_true] at ev2
  obtain ⟨rfl, rfl, rfl, rfl, rfl, rfl⟩ := ev2
  clear h3 h4 hbad ev
  by_cases hn : at' = (n : Int)
  case neg =>
    have HF : Hid (∀ Z, Turned w.heap.size (w1.alloc (.cells #[.int .i64 t.K, .int .i64 t.N, .string t.S, .slice a l c] 26)) Z → GPost zs n w Z 0 0 ByteArray.empty none 0 0 false) := fun Z hZ => by
      rw [← HW2.out] at hZ
      refine gpost_no hwb2 (Nat.le_refl _) hZ (fun ⟨u, hu, _⟩ => ?_)
      rcases q4 with q4 | ⟨q4, _⟩
      · rw [hu] at q4
        simp only [Option.some.injEq, Prod.mk.injEq] at q4
        exact hn q4.2.symm
      · rw [hu] at q4; cases q4
    have hne : (at' != (n : Int)) = true := by simp [hn]
    clear hw2 hRes hT2 HW2 q1 q2 q3 q4 q5 q6 hn
    go_wp2_with fail
    refine bodyPost_ret (v := .tuple #[.agg #[.int .i64 0, .int .i64 0, .string ByteArray.empty, .slice none 0 0], .bool false]) (by first | (simp [results, Try.results26, go_sem, b0, b1, b2, b3]; done) | (simp [results, Try.results26, go_sem, b0, b1, b2, b3]; rfl)) rfl ⟨0, 0, ByteArray.empty, none, 0, 0, false, rfl, HF.out _ ?_⟩
    exact (((Turned.of_set _ _ _ _).trans (Turned.of_set _ _ _ _)).trans (Turned.of_set _ _ _ _)).trans (Turned.of_set _ _ _ _)
  subst hn
  have hrd2 : RdL 7 w2 (.slice a l c) t.L := (q1.frame fun g hg => h12.block g (q2.2 g hg).2).rd
  have hC := specTermOk_any 7 t.K t.N t.S _ t.L w2 hrd2 q3.2.2.2 (Nat.le_trans q3.2.2.1 (by decide))
  rw [hw2] at hC
  have hne : ((n : Int) != (n : Int)) = false := by simp
  have HQ : Hid (OwnL 7 w1 (.slice a l c) t.L fp ∧ Fresh V.heap.size w1 fp ∧ WfT 8 t ∧ Came zs 8 0 t n) := ⟨q1, q2, q3, q4⟩
  clear hrd2 q1 q2 q3 q4 hw2
  go_wp2_with fail
  refine hC.mono ?_
  clear hC b0 b1 b2 b3 y0 y1 y2 y3
  rintro e w3 ⟨ok, rfl, hok, h23⟩
  rw [← HW2.out] at h23
  have hRes3 := (h23.block _ (by omega)).trans hRes
  have hT3 := (h23.block _ (by omega)).trans hT2
  have hwb3 : Below w.heap.size w w3 := hwb2.trans (h23.mono hwb2.size)
  have b0 : w3.cell? ⟨w.heap.size, 0, none⟩ = some (.int .i64 0) := by rw [cell_of_row w3 _ 0 _ _ _ hRes3]; rfl
  have b1 : w3.cell? ⟨w.heap.size, 1, none⟩ = some (.int .i64 0) := by rw [cell_of_row w3 _ 1 _ _ _ hRes3]; rfl
  have b2 : w3.cell? ⟨w.heap.size, 2, none⟩ = some (.string ⟨#[]⟩) := by rw [cell_of_row w3 _ 2 _ _ _ hRes3]; rfl
  have b3 : w3.cell? ⟨w.heap.size, 3, none⟩ = some (.slice none 0 0) := by rw [cell_of_row w3 _ 3 _ _ _ hRes3]; rfl
  have y0 : w3.frozen? ⟨w.heap.size, 0, none⟩ = false := frozen_of_row w3 _ 0 _ _ hRes3
  have y1 : w3.frozen? ⟨w.heap.size, 1, none⟩ = false := frozen_of_row w3 _ 1 _ _ hRes3
  have y2 : w3.frozen? ⟨w.heap.size, 2, none⟩ = false := frozen_of_row w3 _ 2 _ _ hRes3
  have y3 : w3.frozen? ⟨w.heap.size, 3, none⟩ = false := frozen_of_row w3 _ 3 _ _ hRes3
  have t0 : w3.cell? ⟨w1.heap.size, 0, none⟩ = some (.int .i64 t.K) := by rw [cell_of_row w3 _ 0 _ _ _ hT3]; rfl
  have t1 : w3.cell? ⟨w1.heap.size, 1, none⟩ = some (.int .i64 t.N) := by rw [cell_of_row w3 _ 1 _ _ _ hT3]; rfl
  have t2 : w3.cell? ⟨w1.heap.size, 2, none⟩ = some (.string t.S) := by rw [cell_of_row w3 _ 2 _ _ _ hT3]; rfl
  have t3 : w3.cell? ⟨w1.heap.size, 3, none⟩ = some (.slice a l c) := by rw [cell_of_row w3 _ 3 _ _ _ hT3]; rfl
  cases ok
  · have hNR : ¬ Right 7 t.K t.N t.S t.L 8 300 := fun h => by have := hok.2 h; cases this
    have HF : Hid (∀ Z, Turned w.heap.size w3 Z → GPost zs n w Z 0 0 ByteArray.empty none 0 0 false) := fun Z hZ => by
      refine gpost_no hwb3 (Nat.le_refl _) hZ (fun ⟨u, hu, hur⟩ => ?_)
      rcases HQ.out.2.2.2 with q4 | ⟨q4, _⟩
      · rw [hu] at q4
        simp only [Option.some.injEq, Prod.mk.injEq, and_true] at q4
        rw [q4] at hur
        exact hNR hur
      · rw [hu] at q4; cases q4
    clear hok hNR HQ hRes3 hT3 hRes hT2 h23 HW2 t0 t1 t2 t3
    go_wp2_with fail
    refine bodyPost_ret (v := .tuple #[.agg #[.int .i64 0, .int .i64 0, .string ByteArray.empty, .slice none 0 0], .bool false]) (by first | (simp [results, Try.results26, go_sem, b0, b1, b2, b3]; done) | (simp [results, Try.results26, go_sem, b0, b1, b2, b3]; rfl)) rfl ⟨0, 0, ByteArray.empty, none, 0, 0, false, rfl, HF.out _ ?_⟩
    exact (((Turned.of_set _ _ _ _).trans (Turned.of_set _ _ _ _)).trans (Turned.of_set _ _ _ _)).trans (Turned.of_set _ _ _ _)
  · have hRt : Right 7 t.K t.N t.S t.L 8 300 := hok.1 rfl
    have HF : Hid (∀ Z, Turned w.heap.size w3 Z → GPost zs n w Z t.K t.N t.S a l c true) := fun Z hZ => by
      obtain ⟨q1, q2, q3, q4⟩ := HQ.out
      have hk : ∀ g ∈ fp, Z.heap[g]? = w1.heap[g]? := fun g hg => by
        have g1 := q2.2 g hg
        exact (hZ.block g (by have := h23.size; omega) (by omega)).trans ((h23.block g (by omega)).trans (h12.block g g1.2))
      refine ⟨hwb3.trans (hZ.below (Nat.le_refl _) hwb3.size), fun _ => ⟨t.L, fp, q1.frame hk, ⟨q2.1, fun g hg => ⟨by have := (q2.2 g hg).1; omega, by have := (q2.2 g hg).2; have := h23.size; have := hZ.size; omega⟩⟩, q3.2.2.2, q3.1, q3.2.1, q3.2.2.1, ?_, hRt⟩, (fun e => Bool.noConfusion e)⟩
      rcases q4 with q4 | ⟨_, q5⟩
      · exact q4
      · exact absurd ⟨hRt.1, hRt.2.1⟩ q5
    clear hok hRt HQ hRes3 hT3 hRes hT2 h23 HW2
    go_wp2_with fail
    refine bodyPost_ret (v := .tuple #[.agg #[.int .i64 t.K, .int .i64 t.N, .string t.S, .slice a l c], .bool true]) (by first | (simp [results, Try.results26, go_sem, b0, b1, b2, b3]; done) | (simp [results, Try.results26, go_sem, b0, b1, b2, b3]; rfl)) rfl ⟨t.K, t.N, t.S, a, l, c, true, rfl, HF.out _ ?_⟩
    exact (((Turned.of_set _ _ _ _).trans (Turned.of_set _ _ _ _)).trans (Turned.of_set _ _ _ _)).trans (Turned.of_set _ _ _ _)

end Go.Proofs.Ythjmbbpakidkdaa
