/- A new machine: the model's. -/
import Derived.Test.YtkkdnkdkelligaaGreatDoorOw4M
import Derived.Test.YtkkdnkdkelligaaGreatDoorVs1M
import Derived.Test.YtkkdnkdkelligaaGreatDoorRLawM
namespace Go.Proofs.YtkkdnkdkelligaaGreatDoor
open Go.RowKit
set_option linter.unusedVariables false

/-- The slots so far: the first are copies, the others zero. -/
def SlS (d : Nat) (args : List (Tm (d + 1))) (S B : Nat) (w wr : World) (k : Nat) : Prop :=
  ∃ (cur : Array Value) (fps : List (List Nat)), wr.heap[B]? = some (.cells cur 66 (0, 0)) ∧ cur.size = S * 4 ∧ fps.length = k ∧ fps.flatten.Nodup ∧ (∀ g ∈ fps.flatten, B < g ∧ g < wr.heap.size) ∧ Below B w wr ∧ Done d args k wr cur fps ∧
    ∀ i, k ≤ i → i < S → cur[i * 4]? = some (.int .i64 0) ∧ cur[i * 4 + 1]? = some (.int .i64 0) ∧ cur[i * 4 + 2]? = some (.string ⟨#[]⟩) ∧ cur[i * 4 + 3]? = some (.slice none 0 0)
theorem SlS.zero {d : Nat} {args : List (Tm (d + 1))} {S B : Nat} {w wr : World} {k : Nat} (h : SlS d args S B w wr k) (hk : k < S) {V : World} (hV : Below wr.heap.size wr V) :
    (V.cell? ⟨B, k * 4, none⟩ = some (.int .i64 0) ∧ V.cell? ⟨B, k * 4 + 1, none⟩ = some (.int .i64 0) ∧ V.cell? ⟨B, k * 4 + 2, none⟩ = some (.string ⟨#[]⟩) ∧ V.cell? ⟨B, k * 4 + 3, none⟩ = some (.slice none 0 0)) ∧
      V.frozen? ⟨B, k * 4, none⟩ = false ∧ V.frozen? ⟨B, k * 4 + 1, none⟩ = false ∧ V.frozen? ⟨B, k * 4 + 2, none⟩ = false ∧ V.frozen? ⟨B, k * 4 + 3, none⟩ = false := by
  obtain ⟨cur, fps, h1, h2, h3, h4, h5, h6, h7, h8⟩ := h
  have n := (hV.block _ (lt_row h1)).trans h1
  obtain ⟨z0, z1, z2, z3⟩ := h8 k (Nat.le_refl _) hk
  exact ⟨⟨by rw [cell_of_row V _ _ _ _ _ n]; exact z0, by rw [cell_of_row V _ _ _ _ _ n]; exact z1, by rw [cell_of_row V _ _ _ _ _ n]; exact z2, by rw [cell_of_row V _ _ _ _ _ n]; exact z3⟩, frozen_of_row V _ _ _ _ n, frozen_of_row V _ _ _ _ n, frozen_of_row V _ _ _ _ n, frozen_of_row V _ _ _ _ n⟩
theorem SlS.step {d : Nat} {args : List (Tm (d + 1))} {S B : Nat} {w wr V : World} {k : Nat} {t : Tm (d + 1)} {lv : Value} {fp : List Nat} (h : SlS d args S B w wr k) (hk : k < S) (ht : args[k]? = some t) (hb2 : Below wr.heap.size wr V) (hown : OwnL d V lv t.L fp) (hfr2 : Fresh wr.heap.size V fp) :
    SlS d args S B w ((((V.setCell ⟨B, k * 4, none⟩ (.int .i64 t.K)).setCell ⟨B, k * 4 + 1, none⟩ (.int .i64 t.N)).setCell ⟨B, k * 4 + 2, none⟩ (.string t.S)).setCell ⟨B, k * 4 + 3, none⟩ lv) (k + 1) := by
  obtain ⟨cur, fps, h1, h2, h3, h4, h5, h6, h7, h8⟩ := h
  have n := (hb2.block _ (lt_row h1)).trans h1
  have hS := stores4 V B (k * 4) cur 66 n (.int .i64 t.K) (.int .i64 t.N) (.string t.S) lv
  have hWb := stores4_below V B (k * 4) (.int .i64 t.K) (.int .i64 t.N) (.string t.S) lv
  obtain ⟨r1, r2, r3, r4, r5, r6⟩ := to_step hk h2 h3 h4 h5 (lt_row h1) h6 hb2 h7 ht hown hfr2 hS.1 hS.2 (stores4_size V B (k * 4) _ _ _ _) hWb
  refine ⟨_, _, hS.1, r1, r2, r3, r4, r5, r6, fun i hi hiS => ?_⟩
  obtain ⟨z0, z1, z2, z3⟩ := h8 i (by omega) hiS
  exact ⟨by rw [put4_other _ _ _ _ _ _ _ (by omega)]; exact z0, by rw [put4_other _ _ _ _ _ _ _ (by omega)]; exact z1, by rw [put4_other _ _ _ _ _ _ _ (by omega)]; exact z2, by rw [put4_other _ _ _ _ _ _ _ (by omega)]; exact z3⟩
theorem SlS.reads {d : Nat} {args : List (Tm (d + 1))} {S B : Nat} {w wr : World} (h : SlS d args S B w wr args.length) (hn : args.length ≤ S) {Z : World} (hZ : ∀ i, B ≤ i → i < wr.heap.size → Z.heap[i]? = wr.heap[i]?) : RdL (d + 1) Z (.slice (some ⟨B, 0, none⟩) S S) (slotsD args S) := by
  obtain ⟨cur, fps, h1, h2, h3, h4, h5, h6, h7, h8⟩ := h
  have n1 := (hZ B (Nat.le_refl _) (lt_row h1)).trans h1
  refine ⟨_, S, by rw [slotsD_len hn], fun i t ht => ?_⟩
  have hcell : ∀ j, Z.cell? ⟨B, 0 + j, none⟩ = cur[j]? := fun j => by rw [Nat.zero_add, cell_of_row Z _ _ _ _ _ n1]
  by_cases hi : i < args.length
  · have ht' : args[i]? = some t := by
      unfold slotsD at ht
      rw [List.getElem?_append_left hi] at ht
      exact ht
    obtain ⟨lv, f, qf, q0, q1, q2, q3, q4⟩ := h7 i t hi ht'
    refine ⟨B, 0, lv, rfl, ⟨?_, ?_, ?_, ?_⟩, (q4.frame fun x hx => by have := h5 x (List.mem_flatten.2 ⟨f, List.mem_of_getElem? qf, hx⟩); exact hZ x (by omega) this.2).rd⟩
    · rw [hcell]; exact q0
    · rw [Nat.add_assoc, hcell]; exact q1
    · rw [Nat.add_assoc, hcell]; exact q2
    · rw [Nat.add_assoc, hcell]; exact q3
  · have hi2 : i < S := by have := (List.getElem?_eq_some_iff.1 ht).1; rw [slotsD_len hn] at this; exact this
    have ht' : t = zeroTm d := by
      unfold slotsD at ht
      rw [List.getElem?_append_right (by omega)] at ht
      exact (List.mem_replicate.1 (List.mem_of_getElem? ht)).2
    subst ht'
    obtain ⟨z0, z1, z2, z3⟩ := h8 i (by omega) hi2
    refine ⟨B, 0, .slice none 0 0, rfl, ⟨?_, ?_, ?_, ?_⟩, ?_⟩
    · rw [hcell]; exact z0
    · rw [Nat.add_assoc, hcell]; exact z1
    · rw [Nat.add_assoc, hcell]; exact z2
    · rw [Nat.add_assoc, hcell]; exact z3
    · show RdL d Z (.slice none 0 0) []
      cases d with
      | zero => exact ⟨none, 0, rfl⟩
      | succ d => exact ⟨none, 0, rfl, fun i t h => by simp at h⟩

def FrmRes (d : Nat) (args : List (Tm (d + 1))) (S k : Nat) (w : World) (e : Ending) (w' : World) : Prop := ∃ g, e = .returned (.agg #[.int .i64 (k : Int), .int .i64 0, .slice (some ⟨g, 0, none⟩) S S]) ∧ (∀ Z : World, (∀ i, w.heap.size ≤ i → i < w'.heap.size → Z.heap[i]? = w'.heap[i]?) → RdL (d + 1) Z (.slice (some ⟨g, 0, none⟩) S S) (slotsD args S)) ∧ Below w.heap.size w w'

set_option maxRecDepth 100000 in
set_option maxHeartbeats 4000000 in
theorem l10Frame_any {d : Nat} (a0 : Option Addr) (l0 c0 : Nat) (a1 : Option Addr) (l1 c1 : Nat) (fns : List DFn) (k : Nat) (g : DFn) (S : Nat) (sa : Option Addr) (n sc : Nat) (args : List (Tm (d + 1))) (w : World)
    (hF : RowOf 4 FnR w (.slice a0 l0 c0) fns) (hg : fns[k]? = some g) (hl0 : l0 ≤ 1048576) (hS : g.Slots = S) (hSb : S ≤ 400) (hr : RdL (d + 1) w (.slice sa n sc) args) (hn : args.length = n) (hnS : n ≤ S) (hwa : WfL (d + 1) args) (hfa : FewL (d + 1) args) :
    Calls Tryz.prog 73 #[.agg #[.slice a0 l0 c0, .slice a1 l1 c1], .int .i64 k, .slice sa n sc] w fun e w' => FrmRes d args S k w e w' := by
  obtain ⟨i0, hi, hz0, hz1, hz2⟩ := info_parts Tryz.infoTerm
  obtain ⟨aa, cc, ee⟩ := hF.slice
  simp only [Value.slice.injEq] at ee
  obtain ⟨-, el, -⟩ := ee
  obtain ⟨b, o, a3, c3, rfl, f0, f1, f2, f3, _⟩ := Fn_at hF k g hg
  rw [hS] at f2
  have hbl : b < w.heap.size := by have := World.block_lt_of_cell? w _ f0; simpa using this
  have kl : k < l0 := by have := (List.getElem?_eq_some_iff.1 hg).1; omega
  have kl' : (k : Int) < (l0 : Int) := by omega
  obtain ⟨W, hW⟩ : ∃ W, W = (w.alloc (.cells #[.slice (some ⟨b, o, none⟩) l0 c0, .slice a1 l1 c1] 36)).alloc (.cells #[.int .i64 0, .int .i64 0, .slice none 0 0] 61) := ⟨_, rfl⟩
  have hA : Below w.heap.size w W := by rw [hW]; exact ((Below.refl _ _).alloc (Nat.le_refl _) _).alloc (by simp) _
  have hWs : W.heap.size = w.heap.size + 1 + 1 := by rw [hW]; simp
  have nB : W.heap[w.heap.size + 1]? = some (.cells #[.int .i64 0, .int .i64 0, .slice none 0 0] 61 (0, 0)) := by
    rw [hW, show w.heap.size + 1 = (w.alloc (.cells #[.slice (some ⟨b, o, none⟩) l0 c0, .slice a1 l1 c1] 36)).heap.size from by simp]; exact heap_alloc_new _ _
  have HR : Hid (RdL (d + 1) w (.slice sa n sc) args ∧ args.length = n ∧ WfL (d + 1) args ∧ FewL (d + 1) args) := ⟨hr, hn, hwa, hfa⟩
  have HNB : Hid (W.heap[w.heap.size + 1]? = _) := nB
  have HA : Hid (Below w.heap.size w W) := hA
  have HWs : Hid (W.heap.size = w.heap.size + 1 + 1) := hWs
  clear hF hg hr hn hwa hfa f0 f1 f3 el hS nB hA hWs
  go_enter Tryz.func73, Tryz.ntmps73
  go_wp2_with (at_make; refine wpList_make_full _ rfl _ _ 39 rfl (w.heap.size + 1 + 1) 66 i0 _ 4 Tryz.underlying39 hi hz0 hz1 _ _ _ _ S rfl rfl rfl rfl (by rw [hz2]; omega) (by unfold maxLen; omega) (by simp) ?_)
  rw [← hW]
  clear hW
  intro w1 hown hgrow
  have b1 : Below W.heap.size W w1 := ⟨hgrow.os, hgrow.tape, hgrow.output, hgrow.size, fun k hk => hgrow.block k hk (by simp)⟩
  have hM : w1.heap[w.heap.size + 1 + 1]? = some (.cells (madeCells (Value.agg #[.int .i64 0, .int .i64 0, .string ⟨#[]⟩, .slice none 0 0]).cells (S * 4)) 66 (0, 0)) := by
    rcases hown.2 with ⟨h', _⟩ | ⟨g', cap', cur, h', _, hg, _, _, hs, ht⟩
    · simp at h'
    · simp only [Value.slice.injEq, Option.some.injEq, Addr.mk.injEq, and_true, true_and] at h'
      obtain ⟨rfl, rfl⟩ := h'
      have e1 : cur = madeCells (Value.agg #[.int .i64 0, .int .i64 0, .string ⟨#[]⟩, .slice none 0 0]).cells (S * 4) := by
        rw [List.take_of_length_le (by rw [Array.length_toList]; omega)] at ht
        exact Array.toList_inj.1 ht
      rw [← e1]
      exact hg
  obtain ⟨X, hX⟩ : ∃ X, X = w1.alloc (.cells #[.int .i64 (k : Int), .int .i64 0, .slice (some ⟨w.heap.size + 1 + 1, 0, none⟩) S S] 61) := ⟨_, rfl⟩
  have bX : Below w1.heap.size w1 X := by rw [hX]; exact (Below.refl _ _).alloc (Nat.le_refl _) _
  have nX : X.heap[w1.heap.size]? = some (.cells #[.int .i64 (k : Int), .int .i64 0, .slice (some ⟨w.heap.size + 1 + 1, 0, none⟩) S S] 61 (0, 0)) := by rw [hX]; exact heap_alloc_new w1 _
  have HBx : Hid (Below w.heap.size w X) := HA.out.trans ((b1.trans (bX.mono b1.size)).mono HA.out.size)
  have hlt1 : w.heap.size + 1 + 1 < w1.heap.size := lt_row hM
  have HLT1 : Hid (w.heap.size + 1 + 1 < w1.heap.size) := hlt1
  have HSL : Hid (SlS d args S (w.heap.size + 1 + 1) W X 0) := by
    obtain ⟨m1, m2⟩ := made4 S
    refine ⟨_, [], (bX.block _ hlt1).trans hM, m1, rfl, by simp, by simp, ?_, fun i t hi => by omega, fun i _ hi => m2 i hi⟩
    have := HWs.out
    exact (b1.trans (bX.mono b1.size)).mono (by omega)
  have HNX : Hid (X.heap[w1.heap.size]? = _) := nX
  have HNB2 : Hid (X.heap[w.heap.size + 1]? = some (.cells #[.int .i64 0, .int .i64 0, .slice none 0 0] 61 (0, 0))) := by
    have := HWs.out
    exact ((b1.trans (bX.mono b1.size)).block _ (by omega)).trans HNB.out
  clear hown hgrow hM b1 bX nX f2 hlt1
  go_wp2_with fail
  rw [← hX]
  clear hX
  go_loopw [8] (fun i wr => ∃ j : Nat, j ≤ n ∧ i = .int .i64 j ∧ Hid (SlS d args S (w.heap.size + 1 + 1) W wr j) ∧ Hid (wr.heap[w1.heap.size]? = X.heap[w1.heap.size]? ∧ wr.heap[w.heap.size + 1]? = X.heap[w.heap.size + 1]? ∧ Below w.heap.size w wr)) (fun i _ => n - (intOf i).toNat)
  case atStart => exact ⟨0, Nat.zero_le _, rfl, HSL, rfl, rfl, HBx.out⟩
  case round =>
    obtain ⟨j, hj, rfl, HSj, HKj⟩ := hrel
    have nX := HKj.out.1.trans HNX.out
    have nR := HKj.out.2.1.trans HNB2.out
    have x2 : wr.cell? ⟨w1.heap.size, 2, none⟩ = some (.slice (some ⟨w.heap.size + 1 + 1, 0, none⟩) S S) := by rw [cell_of_row wr _ 2 _ _ _ nX]; rfl
    have hw1r : w1.heap.size < wr.heap.size := lt_row nX
    have hwRr : w.heap.size + 1 < wr.heap.size := lt_row nR
    by_cases hjl : j < n
    · obtain ⟨t, ht⟩ : ∃ t, args[j]? = some t := ⟨_, List.getElem?_eq_getElem (by have := HR.out.2.1; omega)⟩
      obtain ⟨tb, tob, la, ll, lc, rfl, t0, t1, t2, t3, hT⟩ := terms_at (HR.out.1.later HKj.out.2.2) j t ht
      have hjl' : (j : Int) < (n : Int) := by omega
      have hjS : j < S := by omega
      have hjS' : (j : Int) < (S : Int) := by omega
      have htb : tb < wr.heap.size := by have := World.block_lt_of_cell? wr _ t0; simpa using this
      obtain ⟨llv, e1, hll⟩ := hT
      simp only [List.cons.injEq, and_true, true_and] at e1
      subst e1
      have HT : Hid (args[j]? = some t) := ht
      have hwt := wf_term HR.out.2.2.1 ht
      have hft := HR.out.2.2.2.2 t (List.mem_of_getElem? ht)
      have HCP : Hid (∀ V0 : World, Below wr.heap.size wr V0 → Calls Tryz.prog 94 #[.agg #[.int .i64 t.K, .int .i64 t.N, .string t.S, .slice la ll lc]] V0 fun e V => ∃ av lv cv fp, e = .returned (.agg #[.int .i64 t.K, .int .i64 t.N, .string t.S, .slice av lv cv]) ∧ Hid (OwnL d V (.slice av lv cv) t.L fp ∧ Fresh wr.heap.size V fp) ∧ Below wr.heap.size wr V) := fun V0 hV0 => by
        refine (l2Copy_any d t.K t.N t.S _ t.L V0 (hll.later hV0) hwt.2.2.2 hft).mono ?_
        rintro e V ⟨av, lv, cv, fp, rfl, hm, hB⟩
        obtain ⟨_, _, _, fp', _, r1, r2, _⟩ := hm.out.own
        exact ⟨av, lv, cv, fp', rfl, ⟨r1, r2.1, fun x hx => ⟨by have := (r2.2 x hx).1; have := hV0.size; omega, (r2.2 x hx).2⟩⟩, hV0.trans (hB.mono hV0.size)⟩
      have HZ : Hid (∀ V : World, Below wr.heap.size wr V → _) := fun V hV => HSj.out.zero hjS hV
      have hlst : Below wr.heap.size wr wr.drew := (Below.refl _ _).drew
      have HBB : Hid (w.heap.size + 1 + 1 < wr.heap.size) := by have := HLT1.out; show _ < _; omega
      have hBB := HBB.out
      clear ht hll hwt hft nX nR
      go_wp2_with fail
      go_region_with (go_at_call 94; refine (HCP.out _ hlst).mono ?_; rintro e V ⟨av, lv, cv, fp, rfl, HO, hB⟩; have x2' := cell_later hB x2; obtain ⟨⟨q0, q1, q2, q3⟩, k0, k1, k2, k3⟩ := HZ.out V hB)
      all_goals
        have HN : Hid (SlS d args S (w.heap.size + 1 + 1) W ((((V.setCell ⟨w.heap.size + 1 + 1, j * 4, none⟩ (.int .i64 t.K)).setCell ⟨w.heap.size + 1 + 1, j * 4 + 1, none⟩ (.int .i64 t.N)).setCell ⟨w.heap.size + 1 + 1, j * 4 + 2, none⟩ (.string t.S)).setCell ⟨w.heap.size + 1 + 1, j * 4 + 3, none⟩ (.slice av lv cv)) (j + 1)) := HSj.out.step hjS HT.out hB HO.out.1 HO.out.2
        have HK2 : Hid (((((V.setCell ⟨w.heap.size + 1 + 1, j * 4, none⟩ (.int .i64 t.K)).setCell ⟨w.heap.size + 1 + 1, j * 4 + 1, none⟩ (.int .i64 t.N)).setCell ⟨w.heap.size + 1 + 1, j * 4 + 2, none⟩ (.string t.S)).setCell ⟨w.heap.size + 1 + 1, j * 4 + 3, none⟩ (.slice av lv cv)).heap[w1.heap.size]? = X.heap[w1.heap.size]? ∧ ((((V.setCell ⟨w.heap.size + 1 + 1, j * 4, none⟩ (.int .i64 t.K)).setCell ⟨w.heap.size + 1 + 1, j * 4 + 1, none⟩ (.int .i64 t.N)).setCell ⟨w.heap.size + 1 + 1, j * 4 + 2, none⟩ (.string t.S)).setCell ⟨w.heap.size + 1 + 1, j * 4 + 3, none⟩ (.slice av lv cv)).heap[w.heap.size + 1]? = X.heap[w.heap.size + 1]? ∧ Below w.heap.size w ((((V.setCell ⟨w.heap.size + 1 + 1, j * 4, none⟩ (.int .i64 t.K)).setCell ⟨w.heap.size + 1 + 1, j * 4 + 1, none⟩ (.int .i64 t.N)).setCell ⟨w.heap.size + 1 + 1, j * 4 + 2, none⟩ (.string t.S)).setCell ⟨w.heap.size + 1 + 1, j * 4 + 3, none⟩ (.slice av lv cv))) := by
          have ho : ∀ x, x ≠ w.heap.size + 1 + 1 → ((((V.setCell ⟨w.heap.size + 1 + 1, j * 4, none⟩ (.int .i64 t.K)).setCell ⟨w.heap.size + 1 + 1, j * 4 + 1, none⟩ (.int .i64 t.N)).setCell ⟨w.heap.size + 1 + 1, j * 4 + 2, none⟩ (.string t.S)).setCell ⟨w.heap.size + 1 + 1, j * 4 + 3, none⟩ (.slice av lv cv)).heap[x]? = V.heap[x]? := fun x hx => by
            rw [heap_setCell_other _ _ _ _ hx, heap_setCell_other _ _ _ _ hx, heap_setCell_other _ _ _ _ hx, heap_setCell_other _ _ _ _ hx]
          have hl1 := HLT1.out
          refine ⟨?_, ?_, ?_⟩
          · rw [ho _ (by omega), hB.block _ hw1r]; exact HKj.out.1
          · rw [ho _ (by omega), hB.block _ hwRr]; exact HKj.out.2.1
          · exact (HKj.out.2.2.trans (hB.mono HKj.out.2.2.size)).trans ((stores4_below V (w.heap.size + 1 + 1) (j * 4) _ _ _ _).mono (by omega))
        clear hB HO q0 q1 q2 q3 k0 k1 k2 k3 x2' x2 t0 t1 t2 t3
        go_wp2_with fail
        go_roundw
        case rel => exact ⟨j + 1, by omega, by go_num, HN, HK2⟩
        case measure => simp [intOf]; omega
    · obtain rfl : j = n := by omega
      have hjl' : decide ((j : Int) < (j : Int)) = false := by simp
      have x0 : wr.cell? ⟨w1.heap.size, 0, none⟩ = some (.int .i64 (k : Int)) := by rw [cell_of_row wr _ 0 _ _ _ nX]; rfl
      have x1 : wr.cell? ⟨w1.heap.size, 1, none⟩ = some (.int .i64 0) := by rw [cell_of_row wr _ 1 _ _ _ nX]; rfl
      have e0 : wr.cell? ⟨w.heap.size + 1, 0, none⟩ = some (.int .i64 0) := by rw [cell_of_row wr _ 0 _ _ _ nR]; rfl
      have e1 : wr.cell? ⟨w.heap.size + 1, 1, none⟩ = some (.int .i64 0) := by rw [cell_of_row wr _ 1 _ _ _ nR]; rfl
      have e2 : wr.cell? ⟨w.heap.size + 1, 2, none⟩ = some (.slice none 0 0) := by rw [cell_of_row wr _ 2 _ _ _ nR]; rfl
      have z0 : wr.frozen? ⟨w.heap.size + 1, 0, none⟩ = false := frozen_of_row wr _ _ _ _ nR
      have z1 : wr.frozen? ⟨w.heap.size + 1, 1, none⟩ = false := frozen_of_row wr _ _ _ _ nR
      have z2 : wr.frozen? ⟨w.heap.size + 1, 2, none⟩ = false := frozen_of_row wr _ _ _ _ nR
      clear nX nR
      have HFIN : Hid (∀ Z : World, Z.heap.size = wr.heap.size → (∀ i, i ≠ w.heap.size + 1 → Z.heap[i]? = wr.heap[i]?) → Z.os = wr.os → Z.tape = wr.tape → Z.output = wr.output → (∀ Y : World, (∀ i, w.heap.size ≤ i → i < Z.heap.size → Y.heap[i]? = Z.heap[i]?) → RdL (d + 1) Y (.slice (some ⟨w.heap.size + 1 + 1, 0, none⟩) S S) (slotsD args S)) ∧ Below w.heap.size w Z) := fun Z hs hZ ho ht hp => by
        refine ⟨fun Y hY => ?_, HKj.out.2.2.trans ⟨ho, ht, hp, by omega, fun i hi => hZ i (by omega)⟩⟩
        have hS2 := HSj.out
        rw [← HR.out.2.1] at hS2
        exact hS2.reads (by rw [HR.out.2.1]; exact hnS) fun i h1 h2 => (hY i (by omega) (by omega)).trans (hZ i (by omega))
      go_wp2_with fail
      obtain ⟨Z, hZ⟩ : ∃ Z, Z = ((wr.setCell ⟨w.heap.size + 1, 0, none⟩ (.int .i64 (k : Int))).setCell ⟨w.heap.size + 1, 1, none⟩ (.int .i64 0)).setCell ⟨w.heap.size + 1, 2, none⟩ (.slice (some ⟨w.heap.size + 1 + 1, 0, none⟩) S S) := ⟨_, rfl⟩
      obtain ⟨r1, r2⟩ := HFIN.out Z (by rw [hZ]; simp) (fun i hi => by rw [hZ, heap_setCell_other _ _ _ _ hi, heap_setCell_other _ _ _ _ hi, heap_setCell_other _ _ _ _ hi]) (by rw [hZ]; rfl) (by rw [hZ]; rfl) (by rw [hZ]; rfl)
      rw [hZ] at r1 r2
      refine bodyPost_ret (v := .agg #[.int .i64 (k : Int), .int .i64 0, .slice (some ⟨w.heap.size + 1 + 1, 0, none⟩) S S]) (by first | (simp [results, Tryz.results73, go_sem, e0, e1, e2]; done) | (simp [results, Tryz.results73, go_sem, e0, e1, e2]; rfl)) rfl ⟨_, rfl, r1, r2⟩

def NwRes (d : Nat) (args : List (Tm (d + 1))) (S k : Nat) (w : World) (e : Ending) (w' : World) : Prop := ∃ g, e = .returned (.agg #[.slice (some ⟨g, 0, none⟩) 1 1, .slice none 0 0]) ∧ (∀ Z : World, (∀ i, w.heap.size ≤ i → i < w'.heap.size → Z.heap[i]? = w'.heap[i]?) → VmR d Z [.slice (some ⟨g, 0, none⟩) 1 1, .slice none 0 0] ⟨[⟨k, 0, slotsD args S⟩], []⟩) ∧ Below w.heap.size w w'

set_option maxRecDepth 100000 in
set_option maxHeartbeats 4000000 in
theorem l10New_any {d : Nat} (a0 : Option Addr) (l0 c0 : Nat) (a1 : Option Addr) (l1 c1 : Nat) (fns : List DFn) (k : Nat) (g : DFn) (S : Nat) (sa : Option Addr) (n sc : Nat) (args : List (Tm (d + 1))) (w : World)
    (hF : RowOf 4 FnR w (.slice a0 l0 c0) fns) (hg : fns[k]? = some g) (hl0 : l0 ≤ 1048576) (hS : g.Slots = S) (hSb : S ≤ 400) (hr : RdL (d + 1) w (.slice sa n sc) args) (hn : args.length = n) (hnS : n ≤ S) (hwa : WfL (d + 1) args) (hfa : FewL (d + 1) args) :
    Calls Tryz.prog 42 #[.agg #[.slice a0 l0 c0, .slice a1 l1 c1], .int .i64 k, .slice sa n sc] w fun e w' => NwRes d args S k w e w' := by
  obtain ⟨W, hW⟩ : ∃ W, W = (w.alloc (.cells #[.slice a0 l0 c0, .slice a1 l1 c1] 36)).alloc (.cells #[.slice none 0 0, .slice none 0 0] 41) := ⟨_, rfl⟩
  have hA : Below w.heap.size w W := by rw [hW]; exact ((Below.refl _ _).alloc (Nat.le_refl _) _).alloc (by simp) _
  have nB : W.heap[w.heap.size + 1]? = some (.cells #[.slice none 0 0, .slice none 0 0] 41 (0, 0)) := by
    rw [hW, show w.heap.size + 1 = (w.alloc (.cells #[.slice a0 l0 c0, .slice a1 l1 c1] 36)).heap.size from by simp]; exact heap_alloc_new _ _
  have hC := l10Frame_any a0 l0 c0 a1 l1 c1 fns k g S sa n sc args W (hF.later FnR.lasts hA) hg hl0 hS hSb (hr.later hA) hn hnS hwa hfa
  rw [hW] at hC
  have HW : Hid (W = _ ∧ Below w.heap.size w W ∧ W.heap[w.heap.size + 1]? = some (.cells #[.slice none 0 0, .slice none 0 0] 41 (0, 0)) ∧ W.heap.size = w.heap.size + 1 + 1) := ⟨hW, hA, nB, by rw [hW]; simp⟩
  clear hF hg hS hr hn hwa hfa hW hA nB
  go_enter Tryz.func42, Tryz.ntmps42
  go_wp2_with fail
  refine hC.mono ?_
  clear hC
  rintro e V ⟨gs, rfl, hR, hB⟩
  rw [← HW.out.1] at hB hR
  have nV := (hB.block _ (lt_row HW.out.2.2.1)).trans HW.out.2.2.1
  have hwV : w.heap.size + 1 < V.heap.size := lt_row nV
  have HBV : Hid (Below w.heap.size w V) := HW.out.2.1.trans (hB.mono HW.out.2.1.size)
  obtain ⟨X, hX⟩ : ∃ X, X = V.alloc (.cells #[.int .i64 (k : Int), .int .i64 0, .slice (some ⟨gs, 0, none⟩) S S] 61) := ⟨_, rfl⟩
  have bX : Below V.heap.size V X := by rw [hX]; exact (Below.refl _ _).alloc (Nat.le_refl _) _
  have nX : X.heap[V.heap.size]? = some (.cells #[.int .i64 (k : Int), .int .i64 0, .slice (some ⟨gs, 0, none⟩) S S] 61 (0, 0)) := by rw [hX]; exact heap_alloc_new V _
  have e0 : V.cell? ⟨w.heap.size + 1, 0, none⟩ = some (.slice none 0 0) := by rw [cell_of_row V _ 0 _ _ _ nV]; rfl
  have e1 : V.cell? ⟨w.heap.size + 1, 1, none⟩ = some (.slice none 0 0) := by rw [cell_of_row V _ 1 _ _ _ nV]; rfl
  have z0 : V.frozen? ⟨w.heap.size + 1, 0, none⟩ = false := frozen_of_row V _ _ _ _ nV
  have z1 : V.frozen? ⟨w.heap.size + 1, 1, none⟩ = false := frozen_of_row V _ _ _ _ nV
  have HFIN : Hid (∀ Z : World, Z.heap.size = X.heap.size → (∀ i, i ≠ w.heap.size + 1 → Z.heap[i]? = X.heap[i]?) → Z.os = X.os → Z.tape = X.tape → Z.output = X.output → (∀ Y : World, (∀ i, w.heap.size ≤ i → i < Z.heap.size → Y.heap[i]? = Z.heap[i]?) → VmR d Y [.slice (some ⟨V.heap.size, 0, none⟩) 1 1, .slice none 0 0] ⟨[⟨k, 0, slotsD args S⟩], []⟩) ∧ Below w.heap.size w Z) := fun Z hs hZ ho ht hp => by
    have hbX : Below w.heap.size w X := HBV.out.trans (bX.mono HBV.out.size)
    have hVX : V.heap.size < X.heap.size := lt_row nX
    refine ⟨fun Y hY => ⟨_, _, rfl, ⟨_, 1, rfl, fun i x hx => ?_⟩, none, 0, rfl, fun i t h => by simp at h⟩, hbX.trans ⟨ho, ht, hp, by omega, fun i hi => hZ i (by omega)⟩⟩
    cases i with
    | succ i => simp at hx
    | zero =>
      simp only [List.getElem?_cons_zero, Option.some.injEq] at hx
      subst hx
      have nZ := ((hY V.heap.size (by omega) (by omega)).trans (hZ V.heap.size (by omega))).trans nX
      refine ⟨V.heap.size, 0, [.int .i64 (k : Int), .int .i64 0, .slice (some ⟨gs, 0, none⟩) S S], rfl, rfl, fun j u hu => ?_, _, rfl, ?_⟩
      · rw [cell_of_row _ _ _ _ _ _ nZ, Nat.zero_mul, Nat.zero_add, List.getElem?_toArray]
        simpa using hu
      · refine hR Y fun i h1 h2 => ?_
        have hWs := HW.out.2.2.2
        rw [hY i (by omega) (by omega), hZ i (by omega)]
        exact bX.block i h2
  have HX : Hid (X = _) := hX
  have HNV : Hid (V.heap[w.heap.size + 1]? = _) := nV
  clear hR hB nV bX nX hX
  go_wp2_with fail
  obtain ⟨V1, hV1⟩ : ∃ Z, Z = (V.setCell ⟨w.heap.size + 1, 0, none⟩ (.slice (some ⟨V.heap.size, 0, none⟩) 1 1)).setCell ⟨w.heap.size + 1, 1, none⟩ (.slice none 0 0) := ⟨_, rfl⟩
  have hs1 : V1.heap.size = V.heap.size := by rw [hV1]; simp
  obtain ⟨Z, hZ⟩ : ∃ Z, Z = V1.alloc (.cells #[.int .i64 (k : Int), .int .i64 0, .slice (some ⟨gs, 0, none⟩) S S] 61) := ⟨_, rfl⟩
  obtain ⟨r1, r2⟩ := HFIN.out Z (by rw [hZ, HX.out]; simp [hs1]) (fun i hi => by
    rw [hZ, HX.out]
    rcases Nat.lt_trichotomy i V.heap.size with h | h | h
    · rw [((Below.refl V1.heap.size V1).alloc (Nat.le_refl _) _).block i (by omega), ((Below.refl V.heap.size V).alloc (Nat.le_refl _) _).block i h, hV1, heap_setCell_other _ _ _ _ hi, heap_setCell_other _ _ _ _ hi]
    · subst h
      rw [heap_alloc_new V _, ← hs1, heap_alloc_new V1 _]
    · rw [Array.getElem?_eq_none (by simp [hs1]; omega), Array.getElem?_eq_none (by simp; omega)]) (by rw [hZ, HX.out, hV1]; rfl) (by rw [hZ, HX.out, hV1]; rfl) (by rw [hZ, HX.out, hV1]; rfl)
  have nZ : Z.heap[w.heap.size + 1]? = some (.cells #[.slice (some ⟨V.heap.size, 0, none⟩) 1 1, .slice none 0 0] 41 (0, 0)) := by
    rw [hZ, ((Below.refl V1.heap.size V1).alloc (Nat.le_refl _) _).block _ (by omega), hV1]
    have n1 := heap_setCell_same V (w.heap.size + 1) 0 _ _ (.slice (some ⟨V.heap.size, 0, none⟩) 1 1) HNV.out
    rw [heap_setCell_same _ (w.heap.size + 1) 1 _ _ _ n1]
    rfl
  have q0 : Z.cell? ⟨w.heap.size + 1, 0, none⟩ = some (.slice (some ⟨V.heap.size, 0, none⟩) 1 1) := by rw [cell_of_row Z _ 0 _ _ _ nZ]; rfl
  have q1 : Z.cell? ⟨w.heap.size + 1, 1, none⟩ = some (.slice none 0 0) := by rw [cell_of_row Z _ 1 _ _ _ nZ]; rfl
  rw [hZ, hV1] at r1 r2 q0 q1
  refine bodyPost_ret (v := .agg #[.slice (some ⟨V.heap.size, 0, none⟩) 1 1, .slice none 0 0]) (by first | (simp [results, Tryz.results42, go_sem, q0, q1]; done) | (simp [results, Tryz.results42, go_sem, q0, q1]; rfl)) rfl ⟨_, rfl, r1, r2⟩

def VnRd {d : Nat} (c : DCode d) (nm : ByteArray) (args : List (Tm (d + 1))) (w : World) (e : Ending) (w' : World) : Prop :=
  ∃ (a0 : Option Addr) (l0 c0 : Nat) (a1 : Option Addr) (l1 c1 : Nat) (ok : Bool) (v : DVm d), e = .returned (.tuple #[.agg #[.slice a0 l0 c0, .slice a1 l1 c1], .bool ok]) ∧ Hid (VmNewT c nm args v ok ∧ VmR d w' [.slice a0 l0 c0, .slice a1 l1 c1] v) ∧ Below w.heap.size w w'

set_option maxRecDepth 100000 in
set_option maxHeartbeats 4000000 in
theorem specVmNew_any (d : Nat) (vs : List Value) (c : DCode d) (nm : ByteArray) (sa : Option Addr) (n sc : Nat) (args : List (Tm (d + 1))) (w : World) (hc : CodeR d w vs c) (hwc : WfCode d c) (hz : szCodeD d c ≤ 1048576)
    (hr : RdL (d + 1) w (.slice sa n sc) args) (hn : args.length = n) (hnb : n ≤ 1048576) (hwa : WfL (d + 1) args) (hfa : FewL (d + 1) args) :
    Calls Tryz.prog 14 #[.agg vs.toArray, .string nm, .slice sa n sc] w fun e w' => VnRd c nm args w e w' := by
  obtain ⟨a0, l0, c0, a1, l1, c1, rfl⟩ := CodeR.shape _ _ _ _ hc
  have hcc := hc
  obtain ⟨w0, w1, e0, hF, hP⟩ := hcc
  simp only [List.cons.injEq, and_true] at e0
  obtain ⟨rfl, rfl⟩ := e0
  obtain ⟨aa, cc, ee⟩ := hF.slice
  simp only [Value.slice.injEq] at ee
  obtain ⟨-, el, -⟩ := ee
  have HLN : Hid (c.Fns.length = l0 ∧ l0 ≤ 1048576) := ⟨el.symm, by have := szRow_len szFnD c.Fns; unfold szCodeD at hz; omega⟩
  have hl0 : l0 ≤ 1048576 := HLN.out.2
  obtain ⟨W, hW⟩ : ∃ W, W = (w.alloc (.cells #[.slice a0 l0 c0, .slice a1 l1 c1] 36)).alloc (.cells #[.slice none 0 0, .slice none 0 0] 41) := ⟨_, rfl⟩
  have hA : Below w.heap.size w W := by rw [hW]; exact ((Below.refl _ _).alloc (Nat.le_refl _) _).alloc (by simp) _
  have hWs : W.heap.size = w.heap.size + 1 + 1 := by rw [hW]; simp
  have nB : W.heap[w.heap.size + 1]? = some (.cells #[.slice none 0 0, .slice none 0 0] 41 (0, 0)) := by
    rw [hW, show w.heap.size + 1 = (w.alloc (.cells #[.slice a0 l0 c0, .slice a1 l1 c1] 36)).heap.size from by simp]; exact heap_alloc_new _ _
  have nA : W.heap[w.heap.size]? = some (.cells #[.slice a0 l0 c0, .slice a1 l1 c1] 36 (0, 0)) := by
    rw [hW, (((Below.refl _ _).alloc (Nat.le_refl _) _).block w.heap.size (by simp))]; exact heap_alloc_new _ _
  have HB : Hid (Below w.heap.size w W ∧ W.heap.size = w.heap.size + 1 + 1) := ⟨hA, hWs⟩
  have HBX : Hid (∀ V : World, Below W.heap.size W V → (V.cell? ⟨w.heap.size, 0, none⟩ = some (.slice a0 l0 c0) ∧ V.cell? ⟨w.heap.size, 1, none⟩ = some (.slice a1 l1 c1) ∧ w.heap.size < V.heap.size) ∧ V.heap[w.heap.size + 1]? = some (.cells #[.slice none 0 0, .slice none 0 0] 41 (0, 0))) := fun V hV => by
    have mA := (hV.block _ (lt_row nA)).trans nA
    have mB := (hV.block _ (lt_row nB)).trans nB
    exact ⟨⟨by rw [cell_of_row V _ 0 _ _ _ mA]; rfl, by rw [cell_of_row V _ 1 _ _ _ mA]; rfl, lt_row mA⟩, mB⟩
  have HRW : Hid (∀ V : World, Below w.heap.size w V → RowOf 4 FnR V (.slice a0 l0 c0) c.Fns) := fun V hV => hF.later FnR.lasts hV
  have HCK : Hid (∀ V : World, Below w.heap.size w V → Calls Tryz.prog 25 #[.agg #[.slice a0 l0 c0, .slice a1 l1 c1]] V fun e w' => BRes (pCodeOk d c) V e w') := fun V hV => specCodeOk_any d _ c V (CodeR.lasts d _ _ _ _ hc hV) hwc hz
  have HAQ : Hid (RdL (d + 1) w (.slice sa n sc) args ∧ args.length = n ∧ WfL (d + 1) args ∧ FewL (d + 1) args) := ⟨hr, hn, hwa, hfa⟩
  have hC := l9FnAt_any (.slice a0 l0 c0) (.slice a1 l1 c1) c.Fns nm W (hF.later FnR.lasts hA) (by have := HLN.out; omega)
  rw [hW] at hC
  have HW : Hid (W = _) := hW
  have HEND : Hid (∀ V : World, Below W.heap.size W V → (¬ ∃ k g, NewP c nm args k g) → VnRd c nm args w (.returned (.tuple #[.agg #[.slice none 0 0, .slice none 0 0], .bool false])) ((V.setCell ⟨w.heap.size + 1, 0, none⟩ (.slice none 0 0)).setCell ⟨w.heap.size + 1, 1, none⟩ (.slice none 0 0))) := fun V hV hno => by
    refine ⟨none, 0, 0, none, 0, 0, false, ⟨[], []⟩, rfl, ⟨.inr ⟨rfl, hno, rfl⟩, VmO.reads d _ _ _ _ (zero_own d _)⟩, ?_⟩
    exact (HB.out.1.trans (hV.mono HB.out.1.size)).trans ⟨rfl, rfl, rfl, by simp, fun i hi => by rw [heap_setCell_other _ _ _ _ (by show i ≠ w.heap.size + 1; omega), heap_setCell_other _ _ _ _ (by show i ≠ w.heap.size + 1; omega)]⟩
  have HRB : Hid (∀ V : World, Below W.heap.size W V → V.cell? ⟨w.heap.size + 1, 0, none⟩ = some (.slice none 0 0) ∧ V.cell? ⟨w.heap.size + 1, 1, none⟩ = some (.slice none 0 0) ∧ V.frozen? ⟨w.heap.size + 1, 0, none⟩ = false ∧ V.frozen? ⟨w.heap.size + 1, 1, none⟩ = false) := fun V hV => by
    have mB := (HBX.out V hV).2
    exact ⟨by rw [cell_of_row V _ 0 _ _ _ mB]; rfl, by rw [cell_of_row V _ 1 _ _ _ mB]; rfl, frozen_of_row V _ _ _ _ mB, frozen_of_row V _ _ _ _ mB⟩
  clear hc hwc hz hF hP el nA nB hA hW hWs hr hn hwa hfa
  go_enter Tryz.func14, Tryz.ntmps14
  go_wp2_with fail
  refine hC.mono ?_
  clear hC
  rintro e V ⟨rfl, hB⟩
  rw [← HW.out] at hB
  have HBV : Hid (Below W.heap.size W V) := hB
  have HBw : Hid (Below w.heap.size w V) := HB.out.1.trans (hB.mono HB.out.1.size)
  clear hB HW
  obtain ⟨⟨y0, y1, hwl⟩, _⟩ := HBX.out V HBV.out
  obtain ⟨ix, hix⟩ : ∃ z, fnIx c.Fns nm = z := ⟨_, rfl⟩
  have HIX : Hid (fnIx c.Fns nm = ix) := hix
  have hixb : -1 ≤ ix ∧ ix < (l0 : Int) := by rw [← hix, ← HLN.out.1]; exact fnIx_bound c.Fns nm
  rw [hix]
  clear hix
  have hC := HCK.out V HBw.out
  go_wp2_with fail
  refine hC.mono ?_
  clear hC
  rintro e V2 ⟨b', rfl, hb', hB2⟩
  have HV2 : Hid (Below W.heap.size W V2) := HBV.out.trans (hB2.mono HBV.out.size)
  have HV2w : Hid (Below w.heap.size w V2) := HBw.out.trans (hB2.mono HBw.out.size)
  clear hB2 y0 y1 hwl
  obtain ⟨⟨y0, y1, hwl⟩, _⟩ := HBX.out V2 HV2.out
  obtain ⟨r0, r1, z0, z1⟩ := HRB.out V2 HV2.out
  cases b' with
  | false =>
    have HF : Hid (VnRd c nm args w _ _) := HEND.out V2 HV2.out fun h => by obtain ⟨k, g, h⟩ := h; have := hb'.2 h.1; cases this
    clear hb'
    go_wp2_with fail
    refine bodyPost_ret (v := .tuple #[.agg #[.slice none 0 0, .slice none 0 0], .bool false]) (by first | (simp [results, Tryz.results14, go_sem, r0, r1]; done) | (simp [results, Tryz.results14, go_sem, r0, r1]; rfl)) rfl HF.out
  | true =>
  have HOK : Hid (pCodeOk d c) := hb'.1 rfl
  clear hb'
  by_cases hneg : ix < 0
  · have HF : Hid (VnRd c nm args w _ _) := HEND.out V2 HV2.out fun h => by obtain ⟨k, g, h⟩ := h; have := h.2.1; rw [HIX.out] at this; omega
    go_wp2_with fail
    refine bodyPost_ret (v := .tuple #[.agg #[.slice none 0 0, .slice none 0 0], .bool false]) (by first | (simp [results, Tryz.results14, go_sem, r0, r1]; done) | (simp [results, Tryz.results14, go_sem, r0, r1]; rfl)) rfl HF.out
  obtain ⟨k, rfl⟩ : ∃ k : Nat, ix = k := ⟨ix.toNat, by omega⟩
  obtain ⟨g, hg⟩ : ∃ g, c.Fns[k]? = some g := ⟨_, List.getElem?_eq_getElem (by have := HLN.out.1; omega)⟩
  obtain ⟨b, o, a3, c3, rfl, f0, f1, f2, f3, _⟩ := Fn_at (HRW.out V2 HV2w.out) k g hg
  have HG : Hid (c.Fns[k]? = some g) := hg
  have hbl : b < V2.heap.size := by have := World.block_lt_of_cell? V2 _ f0; simpa using this
  have kl : k < l0 := by omega
  have kl' : (k : Int) < (l0 : Int) := by omega
  have HONE : Hid (∀ k' g', NewP c nm args k' g' → k' = k ∧ g' = g) := fun k' g' h => by
    have e1 : (k' : Int) = k := h.2.1.symm.trans HIX.out
    have : k' = k := by omega
    subst this
    have e2 := h.2.2.1
    rw [HG.out] at e2
    exact ⟨rfl, by cases e2; rfl⟩
  clear hg
  by_cases hag : g.Args = (n : Int)
  case neg =>
    have hag' : (g.Args != (n : Int)) = true := by simp [hag]
    have HF : Hid (VnRd c nm args w _ _) := HEND.out V2 HV2.out fun h => by
      obtain ⟨k', g', h⟩ := h
      obtain ⟨rfl, rfl⟩ := HONE.out k' g' h
      have := h.2.2.2.1
      rw [HAQ.out.2.1] at this
      exact hag this
    clear hag
    go_wp2_with fail
    refine bodyPost_ret (v := .tuple #[.agg #[.slice none 0 0, .slice none 0 0], .bool false]) (by first | (simp [results, Tryz.results14, go_sem, r0, r1]; done) | (simp [results, Tryz.results14, go_sem, r0, r1]; rfl)) rfl HF.out
  have hag' : (g.Args != (n : Int)) = false := by simp [hag]
  have HAG : Hid (g.Args = (n : Int)) := hag
  clear hag
  go_wp2_with fail
  clear f0 f1 f2 f3 y0 y1 hwl hbl r0 r1 z0 z1
  go_loopw [9] (fun i wr => ∃ j : Nat, j ≤ n ∧ i = .int .i64 j ∧ Hid (Below W.heap.size W wr) ∧ Hid (∀ (i : Nat) (t : Tm (d + 1)), i < j → args[i]? = some t → RightT d t)) (fun i _ => n - (intOf i).toNat)
  case atStart => exact ⟨0, Nat.zero_le _, rfl, HV2, fun i t hi => by omega⟩
  case round =>
    obtain ⟨j, hj, rfl, HBj, HOJ⟩ := hrel
    have HBW : Hid (Below w.heap.size w wr) := HB.out.1.trans (HBj.out.mono HB.out.1.size)
    by_cases hjl : j < n
    · obtain ⟨t, ht⟩ : ∃ t, args[j]? = some t := ⟨_, List.getElem?_eq_getElem (by have := HAQ.out.2.1; omega)⟩
      obtain ⟨tb, tob, la, ll, lc, rfl, t0, t1, t2, t3, hT⟩ := terms_at (HAQ.out.1.later HBW.out) j t ht
      have hjl' : (j : Int) < (n : Int) := by omega
      have HT : Hid (args[j]? = some t) := ht
      have hC := specTm_any d _ t wr hT (wf_term HAQ.out.2.2.1 ht)
      clear ht hT
      go_wp2_with fail
      refine hC.mono ?_
      clear hC
      rintro e' V3 ⟨b3, rfl, hb3, hB3⟩
      have HB3 : Hid (Below W.heap.size W V3) := HBj.out.trans (hB3.mono HBj.out.size)
      clear hB3 t0 t1 t2 t3
      cases b3 with
      | false =>
        obtain ⟨r0, r1, z0, z1⟩ := HRB.out V3 HB3.out
        have HF : Hid (VnRd c nm args w _ _) := HEND.out V3 HB3.out fun h => by
          obtain ⟨k', g', h⟩ := h
          have := hb3.2 (h.2.2.2.2 j t HT.out)
          cases this
        clear hb3
        go_wp2_with fail
        refine bodyPost_ret (v := .tuple #[.agg #[.slice none 0 0, .slice none 0 0], .bool false]) (by first | (simp [results, Tryz.results14, go_sem, r0, r1]; done) | (simp [results, Tryz.results14, go_sem, r0, r1]; rfl)) rfl HF.out
      | true =>
        have HN : Hid (∀ (i : Nat) (t : Tm (d + 1)), i < j + 1 → args[i]? = some t → RightT d t) := fun i y hi hy => by
          rcases Nat.lt_or_ge i j with q | q
          · exact HOJ.out i y q hy
          · obtain rfl : i = j := by omega
            rw [HT.out] at hy
            cases hy
            exact hb3.1 rfl
        clear hb3 HOJ
        go_wp2_with fail
        go_roundw
        case rel => exact ⟨j + 1, by omega, by go_num, HB3, HN⟩
        case measure => simp [intOf]; omega
    · obtain rfl : j = n := by omega
      have hjl' : decide ((j : Int) < (j : Int)) = false := by simp
      have HNP : Hid (NewP c nm args k g) := ⟨HOK.out, HIX.out, HG.out, by rw [HAQ.out.2.1]; exact HAG.out, fun i t hi => HOJ.out i t (by have := (List.getElem?_eq_some_iff.1 hi).1; have := HAQ.out.2.1; omega) hi⟩
      obtain ⟨_, _, hAB, hSB, _⟩ := HOK.out.2.2 k g HG.out
      obtain ⟨S, hS⟩ : ∃ S : Nat, g.Slots = S := ⟨g.Slots.toNat, by omega⟩
      have hC := l10New_any (some ⟨b, o, none⟩) l0 c0 a1 l1 c1 c.Fns k g S sa j sc args wr (HRW.out wr HBW.out) HG.out hl0 hS (by omega) (HAQ.out.1.later HBW.out) HAQ.out.2.1 (by have := HAG.out; omega) HAQ.out.2.2.1 HAQ.out.2.2.2
      have HSE : Hid (g.Slots.toNat = S) := by show _ = _; omega
      obtain ⟨⟨y0, y1, hwl⟩, _⟩ := HBX.out wr HBj.out
      have HWR : Hid (w.heap.size + 1 < wr.heap.size) := lt_row (HBX.out wr HBj.out).2
      clear HOJ hAB hSB
      go_wp2_with fail
      refine hC.mono ?_
      clear hC
      rintro e' V4 ⟨gv, rfl, hVR, hB4⟩
      have HB4 : Hid (Below W.heap.size W V4) := HBj.out.trans (hB4.mono HBj.out.size)
      have HB4w : Hid (Below w.heap.size w V4) := HBW.out.trans (hB4.mono HBW.out.size)
      obtain ⟨r0, r1, z0, z1⟩ := HRB.out V4 HB4.out
      have HF : Hid (VnRd c nm args w (.returned (.tuple #[.agg #[.slice (some ⟨gv, 0, none⟩) 1 1, .slice none 0 0], .bool true])) ((V4.setCell ⟨w.heap.size + 1, 0, none⟩ (.slice (some ⟨gv, 0, none⟩) 1 1)).setCell ⟨w.heap.size + 1, 1, none⟩ (.slice none 0 0))) := by
        have hw2 := HWR.out
        refine ⟨_, _, _, _, _, _, true, _, rfl, ⟨.inl ⟨rfl, k, g, HNP.out, rfl⟩, by rw [HSE.out]; exact hVR _ fun i h1 h2 => by rw [heap_setCell_other _ _ _ _ (by show i ≠ w.heap.size + 1; omega), heap_setCell_other _ _ _ _ (by show i ≠ w.heap.size + 1; omega)]⟩, ?_⟩
        exact HB4w.out.trans ⟨rfl, rfl, rfl, by simp, fun i hi => by rw [heap_setCell_other _ _ _ _ (by show i ≠ w.heap.size + 1; omega), heap_setCell_other _ _ _ _ (by show i ≠ w.heap.size + 1; omega)]⟩
      clear hVR hB4 y0 y1 hwl
      go_wp2_with fail
      refine bodyPost_ret (v := .tuple #[.agg #[.slice (some ⟨gv, 0, none⟩) 1 1, .slice none 0 0], .bool true]) (by first | (simp [results, Tryz.results14, go_sem, r0, r1]; done) | (simp [results, Tryz.results14, go_sem, r0, r1]; rfl)) rfl HF.out

end Go.Proofs.YtkkdnkdkelligaaGreatDoor
