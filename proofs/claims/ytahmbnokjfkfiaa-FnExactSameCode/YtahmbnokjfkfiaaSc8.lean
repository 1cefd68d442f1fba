/- The program's SameCode. -/
import Derived.Test.YtahmbnokjfkfiaaSc6
import Derived.Test.YtahmbnokjfkfiaaSc7
namespace Go.Proofs.Ytahmbnokjfkfiaa
open Go.RowKit
set_option linter.unusedVariables false

/-- Two copies of which the second was made behind the first. -/
theorem fresh_apartG {fa fb : List Nat} {A B : Nat} {w1 w2 : World} (ha : Fresh A w1 fa) (hb : Fresh B w2 fb) (h : w1.heap.size ≤ B) : ∀ g, (fa ++ fb).count g ≤ 1 := fun g => by
  have h1 := (List.nodup_iff_count.1 ha.1) g
  have h2 := (List.nodup_iff_count.1 hb.1) g
  rw [List.count_append]
  rcases Nat.eq_zero_or_pos (fa.count g) with h3 | h3
  · omega
  · rcases Nat.eq_zero_or_pos (fb.count g) with h4 | h4
    · omega
    · have q1 := ha.2 g (List.count_pos_iff.1 h3)
      have q2 := hb.2 g (List.count_pos_iff.1 h4)
      omega

set_option maxRecDepth 100000 in
set_option maxHeartbeats 4000000 in
theorem implSameCode_any (d : Nat) (vs : List Value) (x : DCode d) (us : List Value) (y : DCode d) (w : World) (fx fy : List Nat) (ox : CodeO d w vs x fx) (oy : CodeO d w us y fy) (hz : szCodeD d x ≤ 1048576) (hy : szCodeD d y ≤ 1048576) (hnd : ∀ g, (fx ++ fy).count g ≤ 1) (hlt : ∀ g ∈ fx ++ fy, g < w.heap.size) :
    Calls Try.prog 13 #[.agg vs.toArray, .agg us.toArray] w fun e w' => BRes (pSameCode x y) w e w' := by
  obtain ⟨v0, v1, f0, f1, rfl, rfl, o0, o1⟩ := ox
  obtain ⟨u0, u1, g0, g1, rfl, rfl, p0, p1⟩ := oy
  have hz' : szRow szFnD x.Fns + szRow (szPatD d) x.Pats ≤ 1048576 := hz
  have hy' : szRow szFnD y.Fns + szRow (szPatD d) y.Pats ≤ 1048576 := hy
  obtain ⟨W, hW⟩ : ∃ W, W = (w.alloc (.cells #[v0, v1] 38)).alloc (.cells #[u0, u1] 38) := ⟨_, rfl⟩
  obtain ⟨hWs, hWb, nA, nB⟩ := two_newG w W _ _ _ _ hW
  have hlow : ∀ V : World, Below W.heap.size W V → ∀ g ∈ (f0 ++ f1) ++ (g0 ++ g1), V.heap[g]? = w.heap[g]? := fun V hV g hg => (hV.block g (by have := hlt g hg; omega)).trans (hWb.block g (hlt g hg))
  have hc : ∀ g, f0.count g + f1.count g + (g0.count g + g1.count g) ≤ 1 := fun g => by have := hnd g; simp only [List.count_append] at this; exact this
  have hC0 := sameFns_any W v0 u0 x.Fns y.Fns f0 g0 (o0.frame FnO.lasts fun g hg => hlow W (Below.refl _ _) g (by simp [hg])) (p0.frame FnO.lasts fun g hg => hlow W (Below.refl _ _) g (by simp [hg])) (fun g => by have := hc g; rw [List.count_append]; omega) (fun g hg => by have := hlt g (by simp only [List.mem_append] at hg ⊢; rcases hg with h | h <;> simp [h]); omega) (by omega) (by omega)
  have HC1 : Hid (∀ V : World, Below W.heap.size W V → _) := fun V hV => samePats_any d V v1 u1 x.Pats y.Pats f1 g1 (o1.frame (PatO.lasts d) fun g hg => hlow V hV g (by simp [hg])) (p1.frame (PatO.lasts d) fun g hg => hlow V hV g (by simp [hg])) (fun g => by have := hc g; rw [List.count_append]; omega) (fun g hg => by have := hlt g (by simp only [List.mem_append] at hg ⊢; rcases hg with h | h <;> simp [h]); have := hV.size; omega) (by omega) (by omega)
  obtain ⟨a0, k0, rfl⟩ := own_lenG o0
  obtain ⟨a1, k1, rfl⟩ := own_lenG o1
  obtain ⟨b0, m0, rfl⟩ := own_lenG p0
  obtain ⟨b1, m1, rfl⟩ := own_lenG p1
  have HB : Hid (Below w.heap.size w W ∧ W.heap[w.heap.size]? = _ ∧ W.heap[w.heap.size + 1]? = _) := ⟨hWb, nA, nB⟩
  have HIFF : Hid (pSameCode x y ↔ x.Fns = y.Fns ∧ x.Pats = y.Pats) := ⟨fun e => by rw [show x = y from e]; exact ⟨rfl, rfl⟩, fun e => DCode.ext' e.1 e.2⟩
  rw [hW] at hC0
  have HW : Hid (W = _) := hW
  clear o0 o1 p0 p1 hz hy hz' hy' hlow hc hnd hlt hWs hWb nA nB hW
  go_enter Try.func13, Try.ntmps13
  go_wp2_with fail
  refine hC0.mono ?_
  clear hC0
  rintro e w1 ⟨r, rfl, HR, hb1⟩
  rw [← HW.out] at hb1
  have HB1 : Hid (Below W.heap.size W w1) := hb1
  have r0 := (hb1.block _ (lt_row HB.out.2.1)).trans HB.out.2.1
  have r1 := (hb1.block _ (lt_row HB.out.2.2)).trans HB.out.2.2
  have z1 : w1.cell? ⟨w.heap.size, 1, none⟩ = some (.slice a1 x.Pats.length k1) := by rw [cell_of_row w1 _ 1 _ _ _ r0]; rfl
  have y1 : w1.cell? ⟨w.heap.size + 1, 1, none⟩ = some (.slice b1 y.Pats.length m1) := by rw [cell_of_row w1 _ 1 _ _ _ r1]; rfl
  clear hb1 r0 r1
  cases r with
  | false =>
    have HF : Hid (¬ pSameCode x y) := fun e => by
      have := HR.out.2 (HIFF.out.1 e).1
      cases this
    have HBX : Hid (Below w.heap.size w w1) := HB.out.1.trans (HB1.out.mono HB.out.1.size)
    clear HR
    go_wp2_with fail
    go_ret
    exact bres_no HF.out HBX.out
  | true =>
    have hC1 := HC1.out w1 HB1.out
    have HFE : Hid (x.Fns = y.Fns) := HR.out.1 rfl
    clear HR HC1
    go_wp2_with fail
    refine hC1.mono ?_
    clear hC1
    rintro e w2 ⟨r2, rfl, HR2, hb2⟩
    have HBX : Hid (Below w.heap.size w w2) := HB.out.1.trans ((HB1.out.trans (hb2.mono HB1.out.size)).mono HB.out.1.size)
    have HRES : Hid (r2 = true ↔ pSameCode x y) := HR2.out.trans ⟨fun e => HIFF.out.2 ⟨HFE.out, e⟩, fun e => (HIFF.out.1 e).2⟩
    clear HR2 hb2 z1 y1
    go_wp2_with fail
    go_ret
    exact ⟨r2, rfl, HRES.out, HBX.out⟩

end Go.Proofs.Ytahmbnokjfkfiaa
