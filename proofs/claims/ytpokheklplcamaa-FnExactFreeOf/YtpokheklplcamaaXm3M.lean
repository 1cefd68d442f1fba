/- The law's own copy and comparison of expressions: the rest of the walks. -/
import Derived.Test.YtpokheklplcamaaRowClauseM
namespace Go.Proofs.Ytpokheklplcamaa
open Go.RowKit
set_option linter.unusedVariables false

set_option maxRecDepth 100000 in
set_option maxHeartbeats 2000000 in
theorem toExpr_of (d : Nat) (HE : ToLs 46 5 27 (ExR d) (ExO d) (WfX d) (szX d)) (HC : ToLs 47 10 33 (ClR (ExR d)) (ClO (ExO d)) (ClP (WfX d)) (ClF (szX d))) : ToEl 20 (ExR (d + 1)) (ExO (d + 1)) (WfX (d + 1)) (szX (d + 1)) := by
  rintro vs x w ⟨ve, vc, rfl, h1, h2⟩ ⟨_, _, _, w4, w5⟩ hz
  have hz' : x.S.size + szRow (szX d) x.E + szRow (ClF (szX d)) x.C ≤ 1048576 := hz
  obtain ⟨a3, c3, rfl⟩ := h1.slice
  obtain ⟨a4, c4, rfl⟩ := h2.slice
  obtain ⟨l3, e3⟩ : ∃ l, x.E.length = l := ⟨_, rfl⟩
  obtain ⟨l4, e4⟩ : ∃ l, x.C.length = l := ⟨_, rfl⟩
  rw [e3] at h1 ⊢
  rw [e4] at h2 ⊢
  obtain ⟨K, hK⟩ : ∃ K, x.K = K := ⟨_, rfl⟩
  obtain ⟨N, hN⟩ : ∃ N, x.N = N := ⟨_, rfl⟩
  obtain ⟨S, hS⟩ : ∃ S, x.S = S := ⟨_, rfl⟩
  have HX : Hid (x.K = K ∧ x.N = N ∧ x.S = S) := ⟨hK, hN, hS⟩
  rw [hK, hN, hS]
  obtain ⟨W, hW⟩ : ∃ W, W = ((w.alloc (Obj.cells #[.int .i64 K, .int .i64 N, .string S, .slice a3 l3 c3, .slice a4 l4 c4] 38)).alloc (.cells #[.int .i64 0, .int .i64 0, .string ⟨#[]⟩, .slice none 0 0, .slice none 0 0] 27)).alloc (.cells #[.int .i64 K, .int .i64 N, .string S, .slice none 0 0, .slice none 0 0] 27) := ⟨_, rfl⟩
  obtain ⟨nA, nB, nC⟩ := heap_three w (Obj.cells #[.int .i64 K, .int .i64 N, .string S, .slice a3 l3 c3, .slice a4 l4 c4] 38) (.cells #[.int .i64 0, .int .i64 0, .string ⟨#[]⟩, .slice none 0 0, .slice none 0 0] 27) (.cells #[.int .i64 K, .int .i64 N, .string S, .slice none 0 0, .slice none 0 0] 27)
  rw [← hW] at nA nB nC
  have hWb : Below w.heap.size w W := by rw [hW]; exact (((Below.refl _ _).alloc (Nat.le_refl _) _).alloc (by simp) _).alloc (by simp; omega) _
  have hWs : W.heap.size = w.heap.size + 1 + 1 + 1 := by rw [hW]; simp
  have hC := HE _ _ W (h1.later (ExR.lasts d) hWb) w4 (by omega)
  have HR2 : Hid (∀ V : World, Below w.heap.size w V → _) := fun V hV => HC _ _ V (h2.later (ClR.lasts (ExR.lasts d)) hV) w5 (by omega)
  rw [hW] at hC
  have HW : Hid (W = _) := hW
  have HN : Hid (_ ∧ _ ∧ _) := ⟨nA, nB, nC⟩
  clear hW h1 h2 nA nB nC w4 w5 hz hz' HE HC hK hN hS e3 e4
  go_enter Try.func20, Try.ntmps20
  go_wp2_with fail
  refine hC.mono ?_
  clear hC
  rintro e w1 ⟨ya3, yl3, yc3, fp1, rfl, hown1, hfr1, hb1⟩
  rw [← HW.out] at hfr1 hb1
  obtain ⟨nA, nB, nC⟩ := HN.out
  have nA1 := (hb1.block _ (by omega)).trans nA
  have nB1 := (hb1.block _ (by omega)).trans nB
  have nC1 := (hb1.block _ (by omega)).trans nC
  obtain ⟨V1, hV1⟩ : ∃ V, V = w1.setCell ⟨w.heap.size + 1 + 1, 3, none⟩ (.slice ya3 yl3 yc3) := ⟨_, rfl⟩
  have hV1' : V1 = setL w1 (w.heap.size + 1 + 1) 3 [.slice ya3 yl3 yc3] := hV1
  have hzV : V1.heap.size = w1.heap.size := by rw [hV1']; exact setL_size _ _ _ _
  have hkV : ∀ j, j ≠ w.heap.size + 1 + 1 → V1.heap[j]? = w1.heap[j]? := fun j hj => by rw [hV1']; exact setL_other _ _ _ _ _ hj
  have hbV : Below (w.heap.size + 1 + 1) w1 V1 := by rw [hV1']; exact setL_below _ _ _ _ _ (Nat.le_refl _)
  have nAV := (hkV _ (by omega)).trans nA1
  have nBV := (hkV _ (by omega)).trans nB1
  have nCV : V1.heap[w.heap.size + 1 + 1]? = some (.cells #[.int .i64 K, .int .i64 N, .string S, .slice ya3 yl3 yc3, .slice none 0 0] 27 (0, 0)) := by rw [hV1']; exact setL_row _ _ _ _ _ _ nC1
  have hbw1 : Below w.heap.size w w1 := hWb.trans (hb1.mono hWb.size)
  have hbwV : Below w.heap.size w V1 := hbw1.trans (hbV.mono (by omega))
  have hown1V := hown1.frame (w' := V1) (ExO.lasts d) fun g hg => hkV g (by have := (hfr1.2 g hg).1; omega)
  have hz1 := hb1.size
  have hD := HR2.out V1 hbwV
  rw [hV1] at hD
  have HV1 : Hid (V1 = _) := hV1
  have HO1 : Hid (OwnRow 5 27 (ExO d) V1 (.slice ya3 yl3 yc3) x.E fp1) := hown1V
  have HB1 : Hid (Below w.heap.size w V1 ∧ Fresh W.heap.size w1 fp1 ∧ V1.heap.size = w1.heap.size) := ⟨hbwV, hfr1, hzV⟩
  have HNV : Hid (_ ∧ _ ∧ _) := ⟨nAV, nBV, nCV⟩
  have f4 : w1.cell? ⟨w.heap.size, 4, none⟩ = some (.slice a4 l4 c4) := by rw [cell_of_row w1 _ 4 _ _ _ nA1]; rfl
  have g3 : w1.cell? ⟨w.heap.size + 1 + 1, 3, none⟩ = some (.slice none 0 0) := by rw [cell_of_row w1 _ 3 _ _ _ nC1]; rfl
  have z3 : w1.frozen? ⟨w.heap.size + 1 + 1, 3, none⟩ = false := frozen_of_row w1 _ _ _ _ nC1
  clear hV1 hV1' nA1 nB1 nC1 nA nB nC nAV nBV nCV hbw1 hbwV hown1V hown1 hfr1 hkV hbV HN HR2 hb1 hzV
  go_wp2_with fail
  refine hD.mono ?_
  clear hD f4 g3 z3
  rintro e w2 ⟨xa4, xl4, xc4, fp2, rfl, hown2, hfr2, hb2⟩
  have hfr2' : Fresh V1.heap.size w2 fp2 := by rw [HV1.out]; exact hfr2
  have hb2' : Below V1.heap.size V1 w2 := by rw [HV1.out]; exact hb2
  clear hfr2 hb2
  obtain ⟨nAV, nBV, nCV⟩ := HNV.out
  have hzB := HB1.out.2.2
  have nB2 := (hb2'.block _ (lt_row nBV)).trans nBV
  have nC2 := (hb2'.block _ (lt_row nCV)).trans nCV
  have hz2 := hb2'.size
  have HFIN : Hid (∀ Z, Kept (w.heap.size + 1) (w.heap.size + 1 + 1 + 1) w2 Z → ExO (d + 1) Z [.int .i64 K, .int .i64 N, .string S, .slice ya3 yl3 yc3, .slice xa4 xl4 xc4] x (fp1 ++ fp2) ∧ Fresh w.heap.size Z (fp1 ++ fp2) ∧ Below w.heap.size w Z) := fun Z hZ => by
    have hf1 := HB1.out.2.1
    have hzZ := hZ.size
    obtain ⟨rfl, rfl, rfl⟩ := HX.out
    refine ⟨⟨_, _, fp1, fp2, rfl, rfl, ?_, ?_⟩, ?_, ?_⟩
    · refine HO1.out.frame (ExO.lasts d) fun g hg => ?_
      have := hf1.2 g hg
      exact (hZ.block g (by omega) (.inr (by omega))).trans (hb2'.block g (by omega))
    · exact hown2.frame (ClO.lasts (ExO.lasts d)) fun g hg => hZ.block g (hfr2'.2 g hg).2 (.inr (by have := (hfr2'.2 g hg).1; omega))
    · exact fresh_two hf1 hfr2' (by omega) hz2 hzZ (by omega) (by omega)
    · have hbw2 : Below w.heap.size w w2 := HB1.out.1.trans (hb2'.mono HB1.out.1.size)
      exact hbw2.trans (hZ.below (by omega) hbw2.size)
  have bcell : ∀ j u, (#[.int .i64 0, .int .i64 0, .string ⟨#[]⟩, .slice none 0 0, .slice none 0 0] : Array Value)[j]? = some u → w2.cell? ⟨w.heap.size + 1, j, none⟩ = some u := fun j u hu => by rw [cell_of_row w2 _ _ _ _ _ nB2]; exact hu
  have ccell : ∀ j u, (#[.int .i64 K, .int .i64 N, .string S, .slice ya3 yl3 yc3, .slice none 0 0] : Array Value)[j]? = some u → w2.cell? ⟨w.heap.size + 1 + 1, j, none⟩ = some u := fun j u hu => by rw [cell_of_row w2 _ _ _ _ _ nC2]; exact hu
  have hfB : ∀ j, w2.frozen? ⟨w.heap.size + 1, j, none⟩ = false := fun j => frozen_of_row w2 _ _ _ _ nB2
  have hfC : ∀ j, w2.frozen? ⟨w.heap.size + 1 + 1, j, none⟩ = false := fun j => frozen_of_row w2 _ _ _ _ nC2
  have b0 := bcell 0 _ rfl
  have y0 := hfB 0
  have g0 := ccell 0 _ rfl
  have z0 := hfC 0
  have b1 := bcell 1 _ rfl
  have y1 := hfB 1
  have g1 := ccell 1 _ rfl
  have z1 := hfC 1
  have b2 := bcell 2 _ rfl
  have y2 := hfB 2
  have g2 := ccell 2 _ rfl
  have z2 := hfC 2
  have b3 := bcell 3 _ rfl
  have y3 := hfB 3
  have g3 := ccell 3 _ rfl
  have z3 := hfC 3
  have b4 := bcell 4 _ rfl
  have y4 := hfB 4
  have g4 := ccell 4 _ rfl
  have z4 := hfC 4
  clear nB2 nC2 nAV nBV nCV hown2 hfr2' hb2' HO1 HB1 HNV bcell ccell hfB hfC
  go_wp2_with fail
  refine bodyPost_ret (v := .agg #[.int .i64 K, .int .i64 N, .string S, .slice ya3 yl3 yc3, .slice xa4 xl4 xc4]) (by first | (simp [results, Try.results20, go_sem, b0, b1, b2, b3, b4]; done) | (simp [results, Try.results20, go_sem, b0, b1, b2, b3, b4]; rfl)) rfl ⟨[.int .i64 K, .int .i64 N, .string S, .slice ya3 yl3 yc3, .slice xa4 xl4 xc4], _, rfl, HFIN.out _ ?_⟩
  repeat (first | with_reducible exact Kept.refl _ _ _ | with_reducible refine Kept.drew ?_ | (with_reducible refine Kept.set ?_ ?_; omega))

theorem toExpr_any : ∀ d, ToEl 20 (ExR d) (ExO d) (WfX d) (szX d) := by
  intro d
  induction d with
  | zero => intro vs x w h; exact h.elim
  | succ d ih => exact toExpr_of d (toExprS_of _ _ _ _ (ExR.lasts d) (ExO.lasts d) (ExR.shape d) (ExO.shape d) ih) (toClauseS_of _ _ _ _ (ClR.lasts (ExR.lasts d)) (ClO.lasts (ExO.lasts d)) (ClR.shape (ExR.shape d)) (ClO.shape (ExO.shape d)) (toClause_of _ _ _ _ (ExR.lasts d) (ExO.lasts d) (ExR.shape d) (ExO.shape d) ih))

set_option maxHeartbeats 1000000 in
theorem eqClause_of {α : Type} (R : World → List Value → α → Prop) (P : α → Prop) (hR : Lasts R) (hS : ∀ w vs x, R w vs x → ShExpr vs) (H : EqEl 22 R P) : EqEl 80 (ClR R) (ClP P) := by
  rintro vs1 vs2 ⟨c1, c2⟩ w ⟨p, x, rfl, h1, h2⟩ ⟨p', x', rfl, h1', h2'⟩ ⟨q1, q2⟩
  obtain ⟨i0, i1, s2, a3, l3, c3, a4, l4, c4, rfl⟩ := hS _ _ _ h1
  obtain ⟨i5, i6, s7, a8, l8, c8, a9, l9, c9, rfl⟩ := hS _ _ _ h2
  obtain ⟨j0, j1, t2, b3, m3, d3, b4, m4, d4, rfl⟩ := hS _ _ _ h1'
  obtain ⟨j5, j6, t7, b8, m8, d8, b9, m9, d9, rfl⟩ := hS _ _ _ h2'
  obtain ⟨W, hW⟩ : ∃ W, W = (w.alloc (Obj.cells #[.int .i64 i0, .int .i64 i1, .string s2, .slice a3 l3 c3, .slice a4 l4 c4, .int .i64 i5, .int .i64 i6, .string s7, .slice a8 l8 c8, .slice a9 l9 c9] 33)).alloc (Obj.cells #[.int .i64 j0, .int .i64 j1, .string t2, .slice b3 m3 d3, .slice b4 m4 d4, .int .i64 j5, .int .i64 j6, .string t7, .slice b8 m8 d8, .slice b9 m9 d9] 33) := ⟨_, rfl⟩
  have hA : Below w.heap.size w W := by rw [hW]; exact ((Below.refl _ _).alloc (Nat.le_refl _) _).alloc (by simp) _
  have n1 : W.heap[w.heap.size]? = some (Obj.cells #[.int .i64 i0, .int .i64 i1, .string s2, .slice a3 l3 c3, .slice a4 l4 c4, .int .i64 i5, .int .i64 i6, .string s7, .slice a8 l8 c8, .slice a9 l9 c9] 33 (0, 0)) := by rw [hW, Below.heap_alloc _ _ _ (by simp)]; exact heap_alloc_new w _
  have n2 : W.heap[w.heap.size + 1]? = some (Obj.cells #[.int .i64 j0, .int .i64 j1, .string t2, .slice b3 m3 d3, .slice b4 m4 d4, .int .i64 j5, .int .i64 j6, .string t7, .slice b8 m8 d8, .slice b9 m9 d9] 33 (0, 0)) := by rw [hW]; have := heap_alloc_new (w.alloc (Obj.cells #[.int .i64 i0, .int .i64 i1, .string s2, .slice a3 l3 c3, .slice a4 l4 c4, .int .i64 i5, .int .i64 i6, .string s7, .slice a8 l8 c8, .slice a9 l9 c9] 33)) (Obj.cells #[.int .i64 j0, .int .i64 j1, .string t2, .slice b3 m3 d3, .slice b4 m4 d4, .int .i64 j5, .int .i64 j6, .string t7, .slice b8 m8 d8, .slice b9 m9 d9] 33); simpa using this
  have hC := H _ _ c1 W (hR _ _ _ _ h1 hA) (hR _ _ _ _ h1' hA) q1
  have H2 : Hid (∀ V : World, Below w.heap.size w V → _) := fun V hV => H _ _ c2 V (hR _ _ _ _ h2 hV) (hR _ _ _ _ h2' hV) q2
  rw [hW] at hC
  have HW : Hid (W = _) := hW
  have HN : Hid (_ ∧ _) := ⟨n1, n2⟩
  clear hW n1 n2 h1 h2 h1' h2' q1 q2
  go_enter Try.func80, Try.ntmps80
  go_wp2_with fail
  refine hC.mono ?_
  clear hC
  rintro e w1 ⟨rfl, hb1⟩
  rw [← HW.out] at hb1
  have hb2 : Below w.heap.size w w1 := hA.trans (hb1.mono hA.size)
  obtain ⟨n1, n2⟩ := HN.out
  have m1 := (hb1.block _ (lt_row n1)).trans n1
  have m2 := (hb1.block _ (lt_row n2)).trans n2
  have f5 : w1.cell? ⟨w.heap.size, 5, none⟩ = some (.int .i64 i5) := by rw [cell_of_row w1 _ 5 _ _ _ m1]; rfl
  have g5 : w1.cell? ⟨w.heap.size + 1, 5, none⟩ = some (.int .i64 j5) := by rw [cell_of_row w1 _ 5 _ _ _ m2]; rfl
  have f6 : w1.cell? ⟨w.heap.size, 6, none⟩ = some (.int .i64 i6) := by rw [cell_of_row w1 _ 6 _ _ _ m1]; rfl
  have g6 : w1.cell? ⟨w.heap.size + 1, 6, none⟩ = some (.int .i64 j6) := by rw [cell_of_row w1 _ 6 _ _ _ m2]; rfl
  have f7 : w1.cell? ⟨w.heap.size, 7, none⟩ = some (.string s7) := by rw [cell_of_row w1 _ 7 _ _ _ m1]; rfl
  have g7 : w1.cell? ⟨w.heap.size + 1, 7, none⟩ = some (.string t7) := by rw [cell_of_row w1 _ 7 _ _ _ m2]; rfl
  have f8 : w1.cell? ⟨w.heap.size, 8, none⟩ = some (.slice a8 l8 c8) := by rw [cell_of_row w1 _ 8 _ _ _ m1]; rfl
  have g8 : w1.cell? ⟨w.heap.size + 1, 8, none⟩ = some (.slice b8 m8 d8) := by rw [cell_of_row w1 _ 8 _ _ _ m2]; rfl
  have f9 : w1.cell? ⟨w.heap.size, 9, none⟩ = some (.slice a9 l9 c9) := by rw [cell_of_row w1 _ 9 _ _ _ m1]; rfl
  have g9 : w1.cell? ⟨w.heap.size + 1, 9, none⟩ = some (.slice b9 m9 d9) := by rw [cell_of_row w1 _ 9 _ _ _ m2]; rfl
  have hD := H2.out w1 hb2
  clear m1 m2 n1 n2 hb1 H2 HN
  go_wp2_with fail
  refine hD.mono ?_
  clear hD
  rintro e w2 ⟨rfl, hb3⟩
  have hb4 : Below w.heap.size w w2 := hb2.trans (hb3.mono hb2.size)
  clear hb3 hb2 hA
  go_wp2
  go_ret
  exact ⟨rfl, hb4⟩

set_option maxHeartbeats 1000000 in
theorem eqExpr_of (d : Nat) (HE : EqLs 48 5 (ExR d) (WfX d)) (HC : EqLs 49 10 (ClR (ExR d)) (ClP (WfX d))) : EqEl 22 (ExR (d + 1)) (WfX (d + 1)) := by
  rintro vs1 vs2 x w ⟨ve, vc, rfl, h1, h2⟩ ⟨ve', vc', rfl, h1', h2'⟩ ⟨_, _, _, w4, w5⟩
  obtain ⟨a3, c3, rfl⟩ := h1.slice
  obtain ⟨a4, c4, rfl⟩ := h2.slice
  obtain ⟨b3, d3, rfl⟩ := h1'.slice
  obtain ⟨b4, d4, rfl⟩ := h2'.slice
  obtain ⟨l3, e3⟩ : ∃ l, x.E.length = l := ⟨_, rfl⟩
  obtain ⟨l4, e4⟩ : ∃ l, x.C.length = l := ⟨_, rfl⟩
  rw [e3] at h1 h1' ⊢
  rw [e4] at h2 h2' ⊢
  obtain ⟨K, hK⟩ : ∃ K, x.K = K := ⟨_, rfl⟩
  obtain ⟨N, hN⟩ : ∃ N, x.N = N := ⟨_, rfl⟩
  obtain ⟨S, hS⟩ : ∃ S, x.S = S := ⟨_, rfl⟩
  rw [hK, hN, hS]
  obtain ⟨W, hW⟩ : ∃ W, W = (w.alloc (Obj.cells #[.int .i64 K, .int .i64 N, .string S, .slice a3 l3 c3, .slice a4 l4 c4] 27)).alloc (Obj.cells #[.int .i64 K, .int .i64 N, .string S, .slice b3 l3 d3, .slice b4 l4 d4] 27) := ⟨_, rfl⟩
  have hA : Below w.heap.size w W := by rw [hW]; exact ((Below.refl _ _).alloc (Nat.le_refl _) _).alloc (by simp) _
  have n1 : W.heap[w.heap.size]? = some (Obj.cells #[.int .i64 K, .int .i64 N, .string S, .slice a3 l3 c3, .slice a4 l4 c4] 27 (0, 0)) := by rw [hW, Below.heap_alloc _ _ _ (by simp)]; exact heap_alloc_new w _
  have n2 : W.heap[w.heap.size + 1]? = some (Obj.cells #[.int .i64 K, .int .i64 N, .string S, .slice b3 l3 d3, .slice b4 l4 d4] 27 (0, 0)) := by rw [hW]; have := heap_alloc_new (w.alloc (Obj.cells #[.int .i64 K, .int .i64 N, .string S, .slice a3 l3 c3, .slice a4 l4 c4] 27)) (Obj.cells #[.int .i64 K, .int .i64 N, .string S, .slice b3 l3 d3, .slice b4 l4 d4] 27); simpa using this
  have hC := HE _ _ _ W (h1.later (ExR.lasts d) hA) (h1'.later (ExR.lasts d) hA) w4
  have H2 : Hid (∀ V : World, Below w.heap.size w V → _) := fun V hV => HC _ _ _ V (h2.later (ClR.lasts (ExR.lasts d)) hV) (h2'.later (ClR.lasts (ExR.lasts d)) hV) w5
  rw [hW] at hC
  have HW : Hid (W = _) := hW
  have HN : Hid (_ ∧ _) := ⟨n1, n2⟩
  clear hW n1 n2 h1 h2 h1' h2' w4 w5 HE HC hK hN hS e3 e4
  go_enter Try.func22, Try.ntmps22
  go_wp2_with fail
  refine hC.mono ?_
  clear hC
  rintro e w1 ⟨rfl, hb1⟩
  rw [← HW.out] at hb1
  have hb2 : Below w.heap.size w w1 := hA.trans (hb1.mono hA.size)
  obtain ⟨n1, n2⟩ := HN.out
  have f4 : w1.cell? ⟨w.heap.size, 4, none⟩ = some (.slice a4 l4 c4) := by rw [cell_of_row w1 _ 4 _ _ _ ((hb1.block _ (lt_row n1)).trans n1)]; rfl
  have g4 : w1.cell? ⟨w.heap.size + 1, 4, none⟩ = some (.slice b4 l4 d4) := by rw [cell_of_row w1 _ 4 _ _ _ ((hb1.block _ (lt_row n2)).trans n2)]; rfl
  have hD := H2.out w1 hb2
  clear n1 n2 hb1 H2 HN
  go_wp2_with fail
  refine hD.mono ?_
  clear hD
  rintro e w2 ⟨rfl, hb3⟩
  have hb4 : Below w.heap.size w w2 := hb2.trans (hb3.mono hb2.size)
  clear hb3 hb2 hA
  go_wp2
  go_ret
  exact ⟨rfl, hb4⟩

theorem eqExpr_any : ∀ d, EqEl 22 (ExR d) (WfX d) := by
  intro d
  induction d with
  | zero => intro vs1 vs2 x w h; exact h.elim
  | succ d ih => exact eqExpr_of d (eqExprS_of _ _ (ExR.lasts d) (ExR.shape d) ih) (eqClauseS_of _ _ (ClR.lasts (ExR.lasts d)) (ClR.shape (ExR.shape d)) (eqClause_of _ _ (ExR.lasts d) (ExR.shape d) ih))

end Go.Proofs.Ytpokheklplcamaa
