/- The law's own marks on lists of expressions: the walk. -/
import Derived.Test.YtpokheklplcamaaXk0
namespace Go.Proofs.Ytpokheklplcamaa
open Go.RowKit
set_option linter.unusedVariables false

theorem in_ab {g y : Nat} {a b : List Nat} (h : y ∈ g :: a) : y ∈ g :: (a ++ b) := by
  rcases List.mem_cons.1 h with e | e
  · exact List.mem_cons.2 (.inl e)
  · exact List.mem_cons_of_mem _ (List.mem_append_left _ e)
theorem in_ac {g y : Nat} {a b : List Nat} (h : y ∈ g :: b) : y ∈ g :: (a ++ b) := by
  rcases List.mem_cons.1 h with e | e
  · exact List.mem_cons.2 (.inl e)
  · exact List.mem_cons_of_mem _ (List.mem_append_right _ e)
theorem len_sum {α : Type} (f : α → Nat) (l : List α) (h : ∀ x, 1 ≤ f x) : l.length ≤ (l.map f).sum := by
  induction l with
  | nil => exact Nat.le_refl _
  | cons x l ih => simp only [List.length_cons, List.map_cons, List.sum_cons]; have := h x; omega

set_option maxRecDepth 100000 in
set_option maxHeartbeats 4000000 in
theorem markExprS_of (d : Nat) (HE : MkL 50 5 27 (ExO d) (fun x => 3 + ckX d x)) (HC : MkL 51 10 33 (ClO (ExO d)) (fun c => 6 + ckX d c.1 + ckX d c.2)) : MkL 50 5 27 (ExO (d + 1)) (fun x => 3 + ckX (d + 1) x) := by
  intro v xs fp k w hown hnd h0 h1 hln
  obtain ⟨CC, hCC⟩ : ∃ CC : Ex (d + 1) → Nat, CC = (fun x => 3 + ckX (d + 1) x) := ⟨_, rfl⟩
  rw [← hCC] at h1 ⊢
  have HCC : Hid (CC = (fun x => 3 + ckX (d + 1) x)) := hCC
  clear hCC
  rcases hown with ⟨rfl, rfl, a, c, rfl⟩ | ⟨g, c, cur0, fps, rfl, hh0, hfl, rfl, hel⟩
  · go_enter Try.func50, Try.ntmps50
    go_wp2
    refine wp_loop_rounds 1 ?_
    rw [rounds_succ]
    go_wp2
    go_ret
    exact ⟨k, rfl, h0, by simp, Wrote.refl _ _⟩
  · have HME : Hid (MkL 50 5 27 (ExO d) (fun x => 3 + ckX d x)) := HE
    have HMC : Hid (MkL 51 10 33 (ClO (ExO d)) (fun c => 6 + ckX d c.1 + ckX d c.2)) := HC
    have HND : Hid ((g :: fps.flatten).Nodup) := hnd
    have HH0 : Hid (RestRow 5 (ExO (d + 1)) xs 0 w cur0 fps) := fun i x _ hx => hel i x hx
    have HB : Hid (k + ((xs.map CC).sum : Nat) ≤ 1099511627776) := h1
    obtain ⟨len, hl⟩ : ∃ len, xs.length = len := ⟨_, rfl⟩
    have HL : Hid (xs.length = len) := hl
    rw [hl] at hln ⊢
    clear HE HC hel hl hnd hfl h1
    go_enter Try.func50, Try.ntmps50
    go_wp2_with fail
    go_loopw [1, 5] (fun x i wr => ∃ (j : Nat) (cur : Array Value) (q : Int), j ≤ len ∧ i = .int .i64 j ∧ x = .int .i64 q ∧ 0 ≤ q ∧ q ≤ k + (sumP CC xs j : Nat) ∧ wr.heap[g]? = some (.cells cur 27 (0, 0)) ∧ Hid (RestRow 5 (ExO (d + 1)) xs j wr cur fps) ∧ Hid (Wrote (g :: fps.flatten) w wr)) (fun _ i _ => len - (intOf i).toNat)
    case atStart => exact ⟨0, cur0, k, Nat.zero_le _, rfl, rfl, h0, by show k ≤ k + ((0 : Nat) : Int); omega, hh0, HH0, Wrote.refl _ _⟩
    case round =>
      obtain ⟨j, cur, q, hj, rfl, rfl, hq0, hqs, hh, HHf, HWR⟩ := hrel
      have hq1 : q ≤ 1099511627776 := by have := sumP_le CC xs j; have := HB.out; omega
      clear HH0 hh0
      by_cases hjl : j < len
      · obtain ⟨t, ht⟩ : ∃ t, xs[j]? = some t := ⟨_, List.getElem?_eq_getElem (by rw [HL.out]; exact hjl)⟩
        have HT : Hid (xs[j]? = some t) := ht
        obtain ⟨vs, f, hf, hvl, hcell, hO⟩ := HHf.out j t (Nat.le_refl _) ht
        obtain ⟨vea, vca, fea, fca, rfl, rfl, hEa, hCa⟩ := hO
        obtain ⟨xaa, xca, rfl⟩ := (hEa.rd (ExO.reads d)).slice
        obtain ⟨yaa, yca, rfl⟩ := (hCa.rd (ClO.reads (ExO.reads d))).slice
        obtain ⟨xla, hxla⟩ : ∃ l, t.E.length = l := ⟨_, rfl⟩
        obtain ⟨yla, hyla⟩ : ∃ l, t.C.length = l := ⟨_, rfl⟩
        rw [hxla] at hEa
        rw [hyla] at hCa
        have kaa : cur[j * 5]? = some (.int .i64 t.K) := hcell 0 _ rfl
        have kba : cur[j * 5 + 1]? = some (.int .i64 t.N) := hcell 1 _ rfl
        have kca : cur[j * 5 + 3]? = some (.slice xaa xla xca) := by rw [← hxla]; exact hcell 3 _ rfl
        have kda : cur[j * 5 + 4]? = some (.slice yaa yla yca) := by rw [← hyla]; exact hcell 4 _ rfl
        have hfn : (fea ++ fca).Nodup := (nodup_fl fps (List.nodup_cons.1 HND.out).2).1 _ (List.mem_of_getElem? hf)
        have hgf : g ∉ fea ++ fca := fun hm => (List.nodup_cons.1 HND.out).1 (List.mem_flatten.2 ⟨_, List.mem_of_getElem? hf, hm⟩)
        have hfa := List.nodup_append.1 hfn
        have HEa : Hid (OwnRow 5 27 (ExO d) wr (.slice xaa xla xca) t.E fea) := hEa
        have HCa : Hid (OwnRow 10 33 (ClO (ExO d)) wr (.slice yaa yla yca) t.C fca) := hCa
        have HGa : Hid ((∀ y ∈ fea, y ≠ g) ∧ (∀ y ∈ fca, y ≠ g) ∧ fea.Nodup ∧ fca.Nodup ∧ ∀ y ∈ fea, y ∉ fca) := ⟨fun y hy e => hgf (e ▸ List.mem_append_left _ hy), fun y hy e => hgf (e ▸ List.mem_append_right _ hy), hfa.1, hfa.2.1, fun y hy hy2 => hfa.2.2 y hy y hy2 rfl⟩
        have HCNa : Hid (q + 3 + ((t.E.map fun x => 3 + ckX d x).sum : Nat) + ((t.C.map fun c => 6 + ckX d c.1 + ckX d c.2).sum : Nat) ≤ 1099511627776) := by
          have h7 := sumP_succ CC xs j t ht
          have h8 := sumP_le CC xs (j + 1)
          have h9 := HB.out
          have h10 : CC t = 3 + ((t.E.map fun x => 3 + ckX d x).sum + (t.C.map fun c => 6 + ckX d c.1 + ckX d c.2).sum) := by rw [HCC.out]; rfl
          show _ ≤ _
          omega
        have HLEa : Hid (t.E.length ≤ 1099511627776 ∧ t.C.length ≤ 1099511627776) := by
          have l1 := len_sum (fun x : Ex d => 3 + ckX d x) t.E (fun x => by omega)
          have l2 := len_sum (fun c : Ex d × Ex d => 6 + ckX d c.1 + ckX d c.2) t.C (fun x => by omega)
          have := HCNa.out
          exact ⟨by omega, by omega⟩
        have HF : Hid (fps[j]? = some (fea ++ fca)) := hf
        clear hEa hCa hfn hgf hfa hf hcell
        have hsza : j * 5 + 4 < cur.size := (Array.getElem?_eq_some_iff.1 kda).1
        have hgsa : g < wr.heap.size := lt_row hh
        have saa : wr.cell? ⟨g, j * 5, none⟩ = some (.int .i64 t.K) := by rw [cell_of_row wr _ _ _ _ _ hh]; exact kaa
        have sba : wr.cell? ⟨g, j * 5 + 1, none⟩ = some (.int .i64 t.N) := by rw [cell_of_row wr _ _ _ _ _ hh]; exact kba
        have zaa : wr.frozen? ⟨g, j * 5, none⟩ = false := frozen_of_row wr _ _ _ _ hh
        have zba : wr.frozen? ⟨g, j * 5 + 1, none⟩ = false := frozen_of_row wr _ _ _ _ hh
        have hA1a := heap_setCell_same wr g (j * 5) cur 27 (.int .i64 q) hh
        have hA2a := heap_setCell_same _ g (j * 5 + 1) _ 27 (.int .i64 (q + 1)) hA1a
        obtain ⟨W2a, hW2a⟩ : ∃ W2, W2 = (wr.setCell ⟨g, j * 5, none⟩ (.int .i64 q)).setCell ⟨g, j * 5 + 1, none⟩ (.int .i64 (q + 1)) := ⟨_, rfl⟩
        have hWr2a : Wrote [g] wr W2a := by rw [hW2a]; exact (Wrote.of_set wr g (j * 5) _).trans (Wrote.of_set _ g (j * 5 + 1) _)
        rw [← hW2a] at hA2a
        have hCta := markText_any (q + 1 + 1) W2a (by omega) (by have := HCNa.out; omega)
        rw [hW2a] at hCta
        have HW2a : Hid (W2a = _) := hW2a
        have HA2a : Hid (W2a.heap[g]? = some (.cells ((cur.setIfInBounds (j * 5) (.int .i64 q)).setIfInBounds (j * 5 + 1) (.int .i64 (q + 1))) 27 (0, 0))) := hA2a
        have HWr2a : Hid (Wrote [g] wr W2a) := hWr2a
        have HKa : Hid (cur[j * 5 + 3]? = some (.slice xaa xla xca) ∧ cur[j * 5 + 4]? = some (.slice yaa yla yca)) := ⟨kca, kda⟩
        clear hA1a hA2a hW2a hWr2a
        go_wp2_with fail
        refine hCta.mono ?_
        clear hCta saa sba zaa zba
        rintro e Va ⟨rfl, hBVa⟩
        rw [← HW2a.out] at hBVa
        have hhVa := (hBVa.block g (lt_row HA2a.out)).trans HA2a.out
        obtain ⟨v2a, t2a⟩ : ∃ v, Va.cell? ⟨g, j * 5 + 2, none⟩ = some v := by rw [cell_of_row Va _ _ _ _ _ hhVa]; exact ⟨_, Array.getElem?_eq_getElem (by simp; omega)⟩
        have t3a : Va.cell? ⟨g, j * 5 + 3, none⟩ = some (.slice xaa xla xca) := by
          rw [cell_of_row Va _ _ _ _ _ hhVa, Array.getElem?_setIfInBounds_ne (by omega), Array.getElem?_setIfInBounds_ne (by omega)]; exact HKa.out.1
        have zza : Va.frozen? ⟨g, j * 5 + 2, none⟩ = false := frozen_of_row Va _ _ _ _ hhVa
        have hA3a := heap_setCell_same Va g (j * 5 + 2) _ 27 (.string (mt (q + 1 + 1))) hhVa
        obtain ⟨W3a, hW3a⟩ : ∃ W3, W3 = Va.setCell ⟨g, j * 5 + 2, none⟩ (.string (mt (q + 1 + 1))) := ⟨_, rfl⟩
        have hWr3a : Wrote [g] wr W3a := (HWr2a.out.trans (Wrote.of_below hBVa)).trans (by rw [hW3a]; exact Wrote.of_set Va g (j * 5 + 2) _)
        rw [← hW3a] at hA3a
        have hE3a := HEa.out.frame (w' := W3a) (ExO.lasts d) fun y hy => hWr3a.block y (HEa.out.lt (ExO.lt d) y hy) (fun hm => HGa.out.1 y hy (by simpa using hm))
        have hC2a := HME.out (.slice xaa xla xca) t.E fea (q + 1 + 1 + 1) W3a hE3a HGa.out.2.2.1 (by omega) (by have := HCNa.out; omega) (by have := HLEa.out.1; omega)
        have HW3a : Hid (W3a = _) := hW3a
        have HA3a : Hid (W3a.heap[g]? = some (.cells (((cur.setIfInBounds (j * 5) (.int .i64 q)).setIfInBounds (j * 5 + 1) (.int .i64 (q + 1))).setIfInBounds (j * 5 + 2) (.string (mt (q + 1 + 1)))) 27 (0, 0))) := hA3a
        have HWr3a : Hid (Wrote [g] wr W3a) := hWr3a
        rw [hW3a] at hC2a
        clear hW3a hA3a hE3a hWr3a hBVa hhVa
        go_wp2_with fail
        refine hC2a.mono ?_
        clear hC2a t2a t3a zza
        rintro e V2a ⟨q1a, rfl, hq10a, hq11a, hw2a⟩
        rw [← HW3a.out] at hw2a
        have hhFa := (hw2a.block g (lt_row HA3a.out) (fun hm => HGa.out.1 g hm rfl)).trans HA3a.out
        have hWr4a : Wrote (g :: fea) wr V2a := (HWr3a.out.mono fun y hy => by simp at hy; simp [hy]).trans (hw2a.mono fun y hy => List.mem_cons_of_mem _ hy)
        have t4a : V2a.cell? ⟨g, j * 5 + 4, none⟩ = some (.slice yaa yla yca) := by
          rw [cell_of_row V2a _ _ _ _ _ hhFa, Array.getElem?_setIfInBounds_ne (by omega), Array.getElem?_setIfInBounds_ne (by omega), Array.getElem?_setIfInBounds_ne (by omega)]; exact HKa.out.2
        have hCCa := HCa.out.frame (w' := V2a) (ClO.lasts (ExO.lasts d)) fun y hy => hWr4a.block y (HCa.out.lt (ClO.lt (ExO.lt d)) y hy) (fun hm => by
          rcases List.mem_cons.1 hm with e | hm
          · exact HGa.out.2.1 y hy e
          · exact HGa.out.2.2.2.2 y hm hy)
        have hC3a := HMC.out (.slice yaa yla yca) t.C fca q1a V2a hCCa HGa.out.2.2.2.1 hq10a (by have := HCNa.out; omega) (by have := HLEa.out.2; omega)
        have HWr4a : Hid (Wrote (g :: fea) wr V2a) := hWr4a
        have HHFa : Hid (V2a.heap[g]? = _) := hhFa
        clear hCCa hWr4a hw2a hhFa
        go_wp2_with fail
        refine hC3a.mono ?_
        clear hC3a t4a
        rintro e V3a ⟨q2a, rfl, hq20a, hq21a, hw3a⟩
        have hh3a := (hw3a.block g (lt_row HHFa.out) (fun hm => HGa.out.2.1 g hm rfl)).trans HHFa.out
        have hWr5a : Wrote (g :: (fea ++ fca)) wr V3a := (HWr4a.out.mono fun y hy => in_ab hy).trans (hw3a.mono fun y hy => List.mem_cons_of_mem _ (List.mem_append_right _ hy))
        have HH3a : Hid (V3a.heap[g]? = some (.cells (((cur.setIfInBounds (j * 5) (.int .i64 q)).setIfInBounds (j * 5 + 1) (.int .i64 (q + 1))).setIfInBounds (j * 5 + 2) (.string (mt (q + 1 + 1)))) 27 (0, 0))) := hh3a
        have HWr5a : Hid (Wrote (g :: (fea ++ fca)) wr V3a) := hWr5a
        clear hh3a hWr5a hw3a
        have HRS : Hid (RestRow 5 (ExO (d + 1)) xs (j + 1) V3a _ fps) := rest_step (cur3 := ((cur.setIfInBounds (j * 5) (.int .i64 q)).setIfInBounds (j * 5 + 1) (.int .i64 (q + 1))).setIfInBounds (j * 5 + 2) (.string (mt (q + 1 + 1)))) (ExO.lasts (d + 1)) (ExO.lt (d + 1)) HHf.out HF.out HND.out HWr5a.out (fun m hm => by rw [Array.getElem?_setIfInBounds_ne (by omega), Array.getElem?_setIfInBounds_ne (by omega), Array.getElem?_setIfInBounds_ne (by omega)])
        have HWF : Hid (Wrote (g :: fps.flatten) w V3a) := HWR.out.trans (HWr5a.out.mono fun y hy => by
          rcases List.mem_cons.1 hy with rfl | hy
          · exact List.mem_cons_self ..
          · exact List.mem_cons_of_mem _ (List.mem_flatten.2 ⟨_, List.mem_of_getElem? HF.out, hy⟩))
        have HQ2 : Hid (0 ≤ q2a ∧ q2a ≤ k + (sumP CC xs (j + 1) : Nat)) := by
          have h7 := sumP_succ CC xs j t HT.out
          have h10 : CC t = 3 + ((t.E.map fun x => 3 + ckX d x).sum + (t.C.map fun c => 6 + ckX d c.1 + ckX d c.2).sum) := by rw [HCC.out]; rfl
          exact ⟨hq20a, by omega⟩
        clear hq20a hq21a hq10a hq11a
        go_wp2
        go_roundw
        case rel => exact ⟨j + 1, _, q2a, by omega, by go_num, rfl, HQ2.out.1, HQ2.out.2, HH3a.out, HRS, HWF⟩
        case measure => simp [intOf]; omega
      · have HF : Hid (q ≤ k + ((xs.map CC).sum : Nat)) := by have := sumP_le CC xs j; show _ ≤ _; omega
        clear hh HHf
        go_wp2
        go_ret
        exact ⟨q, rfl, hq0, HF.out, HWR.out⟩

end Go.Proofs.Ytpokheklplcamaa
