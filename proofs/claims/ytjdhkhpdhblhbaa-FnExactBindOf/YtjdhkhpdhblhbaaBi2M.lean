/- The law's own marks on binds. -/
import Derived.Test.YtjdhkhpdhblhbaaBi1M
import Derived.Test.YtjdhkhpdhblhbaaMarkTM
namespace Go.Proofs.Ytjdhkhpdhblhbaa
open Go.RowKit
set_option linter.unusedVariables false

def ckB (d : Nat) (b : Bn d) : Nat := 4 + 3 * cntL d b.t.L

/-- What is still to be marked of a row of binds. -/
def HalfB (d : Nat) (bs : List (Bn d)) (j : Nat) (w : World) (cur : Array Value) (fps : List (List Nat)) : Prop :=
  ∀ (i : Nat) (b : Bn d), j ≤ i → bs[i]? = some b → ∃ lv f, fps[i]? = some f ∧ (∃ v0 v1 v2 v3, cur[i * 5]? = some v0 ∧ cur[i * 5 + 1]? = some v1 ∧ cur[i * 5 + 2]? = some v2 ∧ cur[i * 5 + 3]? = some v3) ∧ cur[i * 5 + 4]? = some lv ∧ OwnL d w lv b.t.L f

theorem half_next {d : Nat} {bs : List (Bn d)} {j g : Nat} {wr V V2 : World} {cur cur3 : Array Value} {fps : List (List Nat)} {f : List Nat} (hH : HalfB d bs j wr cur fps) (hf : fps[j]? = some f) (hnd : (g :: fps.flatten).Nodup)
    (hV : ∀ x, x < wr.heap.size → x ≠ g → V.heap[x]? = wr.heap[x]?) (hW : Wrote f V V2) (hVs : wr.heap.size ≤ V.heap.size) (c3 : ∀ x, j * 5 + 4 < x → cur3[x]? = cur[x]?) : HalfB d bs (j + 1) V2 cur3 fps := by
  intro i b hi hb
  obtain ⟨lv, f', e1, ⟨v0, v1, v2, v3, k0, k1, k2, k3⟩, e3, e4⟩ := hH i b (by omega) hb
  refine ⟨lv, f', e1, ⟨v0, v1, v2, v3, by rw [c3 _ (by omega)]; exact k0, by rw [c3 _ (by omega)]; exact k1, by rw [c3 _ (by omega)]; exact k2, by rw [c3 _ (by omega)]; exact k3⟩, by rw [c3 _ (by omega)]; exact e3, e4.frame fun x hx => ?_⟩
  have hg : g ∉ f' := fun hm => (List.nodup_cons.1 hnd).1 (List.mem_flatten.2 ⟨f', List.mem_of_getElem? e1, hm⟩)
  have hxs := e4.lt x hx
  have hp := (nodup_fl fps (List.nodup_cons.1 hnd).2).2 j i f f' (by omega) hf e1
  rw [hW.block x (by omega) (fun hxf => hp x hxf hx), hV x hxs (fun e => hg (e ▸ hx))]

set_option maxHeartbeats 4000000 in
theorem markBindS_any (d : Nat) (v : Value) (bs : List (Bn d)) (fp : List Nat) (k : Int) (w : World) (hown : OwnRow 5 63 (BnO d) w v bs fp) (hnd : fp.Nodup) (h0 : 0 ≤ k) (h1 : k + ((bs.map (ckB d)).sum : Nat) ≤ 1099511627776) (hlb : bs.length ≤ 1099511627776) :
    Calls Try.prog 25 #[v, .int .i64 k] w fun e w' => ∃ q : Int, e = .returned (.int .i64 q) ∧ 0 ≤ q ∧ Wrote fp w w' := by
  rcases hown with ⟨rfl, rfl, a, c, rfl⟩ | ⟨g, c, cur0, fps, rfl, hh0, ⟨hfl, _⟩, rfl, hel⟩
  · go_enter Try.func25, Try.ntmps25
    go_wp2
    refine wp_loop_rounds 1 ?_
    rw [rounds_succ]
    go_wp2
    go_ret
    exact ⟨k, rfl, h0, Wrote.refl _ _⟩
  · have HND : Hid ((g :: fps.flatten).Nodup) := hnd
    have HH0 : Hid (HalfB d bs 0 w cur0 fps) := fun i b _ hb => by
      obtain ⟨vs, f, e1, e2, e3, lv, rfl, e4⟩ := hel i b hb
      exact ⟨lv, f, e1, ⟨_, _, _, _, by have := e3 0 _ rfl; simpa using this, e3 1 _ rfl, e3 2 _ rfl, e3 3 _ rfl⟩, e3 4 _ rfl, e4⟩
    have HB : Hid (k + ((bs.map (ckB d)).sum : Nat) ≤ 1099511627776) := h1
    obtain ⟨len, hl⟩ : ∃ len, bs.length = len := ⟨_, rfl⟩
    have HL : Hid (bs.length = len) := hl
    rw [hl] at hlb ⊢
    clear hel hl hnd hfl h1
    go_enter Try.func25, Try.ntmps25
    go_wp2_with fail
    go_loopw [1, 5] (fun x i wr => ∃ (j : Nat) (q : Int) (cur : Array Value), j ≤ len ∧ i = .int .i64 j ∧ x = .int .i64 q ∧ 0 ≤ q ∧ q ≤ k + (sumP (ckB d) bs j : Nat) ∧ wr.heap[g]? = some (.cells cur 63 (0, 0)) ∧ Hid (HalfB d bs j wr cur fps) ∧ Wrote (g :: fps.flatten) w wr) (fun _ i _ => len - (intOf i).toNat)
    case atStart => exact ⟨0, k, cur0, Nat.zero_le _, rfl, rfl, h0, by omega, hh0, HH0, Wrote.refl _ _⟩
    case round =>
      obtain ⟨j, q, cur, hj, rfl, rfl, hq0, hq, hh, HHf, hwr⟩ := hrel
      have HQ : Hid (q ≤ k + (sumP (ckB d) bs j : Nat)) := hq
      have hq1 : q ≤ 1099511627776 := by have := sumP_le (ckB d) bs j; have := HB.out; omega
      clear hq
      by_cases hjl : j < len
      · obtain ⟨b, hb⟩ : ∃ b, bs[j]? = some b := ⟨_, List.getElem?_eq_getElem (by rw [HL.out]; exact hjl)⟩
        obtain ⟨lv, f, ef, ⟨v0, v1, v2, v3, k0, k1, k2, k3⟩, k4, ho⟩ := HHf.out j b (Nat.le_refl _) hb
        obtain ⟨xa, xl, xc, hxs⟩ := ho.rd.shape
        rw [hxs] at k4 ho
        have hstep := sumP_succ (ckB d) bs j b hb
        have hcnt : q + 4 + 3 * (cntL d b.t.L : Nat) ≤ 1099511627776 := by
          have h8 := sumP_le (ckB d) bs (j + 1); have h9 := HB.out; have := HQ.out
          have e1 : ckB d b = 4 + 3 * cntL d b.t.L := rfl
          omega
        have HN : Hid (q + 1 + 1 + 1 + 1 + 3 * (cntL d b.t.L : Nat) ≤ k + (sumP (ckB d) bs (j + 1) : Nat)) := by
          have := HQ.out
          have e1 : ckB d b = 4 + 3 * cntL d b.t.L := rfl
          show _ ≤ _
          omega
        have hsz : j * 5 + 4 < cur.size := (Array.getElem?_eq_some_iff.1 k4).1
        have hgs : g < wr.heap.size := lt_row hh
        have hC := markText_any q wr (by omega) (by omega)
        have HOo : Hid (OwnL d wr (.slice xa xl xc) b.t.L f) := ho
        have HK : Hid (fps[j]? = some f ∧ cur[j * 5 + 4]? = some (.slice xa xl xc)) := ⟨ef, k4⟩
        have HHh : Hid (wr.heap[g]? = some (.cells cur 63 (0, 0))) := hh
        clear ho hb ef k0 k1 k2 k3 k4 hxs hh hstep
        go_wp2_with fail
        refine hC.mono ?_
        clear hC
        rintro e V0 ⟨rfl, hB0⟩
        have hhV0 := (hB0.block g hgs).trans HHh.out
        have cell0 : ∀ m, m < 5 → ∃ v, V0.cell? ⟨g, j * 5 + m, none⟩ = some v := fun m hm => by rw [cell_of_row V0 _ _ _ _ _ hhV0]; exact ⟨_, Array.getElem?_eq_getElem (by omega)⟩
        obtain ⟨x0, s0⟩ := cell0 0 (by omega)
        rw [Nat.add_zero] at s0
        obtain ⟨x1, s1⟩ := cell0 1 (by omega)
        obtain ⟨x2, s2⟩ := cell0 2 (by omega)
        have z0 : V0.frozen? ⟨g, j * 5, none⟩ = false := frozen_of_row V0 _ _ _ _ hhV0
        have z1 : V0.frozen? ⟨g, j * 5 + 1, none⟩ = false := frozen_of_row V0 _ _ _ _ hhV0
        have z2 : V0.frozen? ⟨g, j * 5 + 2, none⟩ = false := frozen_of_row V0 _ _ _ _ hhV0
        obtain ⟨W2, hW2⟩ : ∃ W2, W2 = ((V0.setCell ⟨g, j * 5, none⟩ (.string (mt q))).setCell ⟨g, j * 5 + 1, none⟩ (.int .i64 (q + 1))).setCell ⟨g, j * 5 + 2, none⟩ (.int .i64 (q + 1 + 1)) := ⟨_, rfl⟩
        have hA2 : W2.heap[g]? = some (.cells (((cur.setIfInBounds (j * 5) (.string (mt q))).setIfInBounds (j * 5 + 1) (.int .i64 (q + 1))).setIfInBounds (j * 5 + 2) (.int .i64 (q + 1 + 1))) 63 (0, 0)) := by
          rw [hW2]; exact heap_setCell_same _ g _ _ _ _ (heap_setCell_same _ g _ _ _ _ (heap_setCell_same _ g _ _ _ _ hhV0))
        have hWr2 : Wrote [g] wr W2 := (Wrote.of_below hB0).trans (by rw [hW2]; exact ((Wrote.of_set V0 g (j * 5) _).trans (Wrote.of_set _ g (j * 5 + 1) _)).trans (Wrote.of_set _ g (j * 5 + 2) _))
        have hC1 := markText_any (q + 1 + 1 + 1) W2 (by omega) (by omega)
        rw [hW2] at hC1
        have HW2 : Hid (W2 = _) := hW2
        have HA2 : Hid (W2.heap[g]? = some (.cells (((cur.setIfInBounds (j * 5) (.string (mt q))).setIfInBounds (j * 5 + 1) (.int .i64 (q + 1))).setIfInBounds (j * 5 + 2) (.int .i64 (q + 1 + 1))) 63 (0, 0))) := hA2
        have HWr2 : Hid (Wrote [g] wr W2) := hWr2
        clear hW2 hA2 hWr2 cell0 hhV0 hB0
        go_wp2_with fail
        refine hC1.mono ?_
        clear hC1 s0 s1 s2 z0 z1 z2
        rintro e V ⟨rfl, hBV⟩
        rw [← HW2.out] at hBV
        have hhV := (hBV.block g (lt_row HA2.out)).trans HA2.out
        obtain ⟨x3, t2⟩ : ∃ v, V.cell? ⟨g, j * 5 + 3, none⟩ = some v := by rw [cell_of_row V _ _ _ _ _ hhV]; exact ⟨_, Array.getElem?_eq_getElem (by simp; omega)⟩
        have t3 : V.cell? ⟨g, j * 5 + 4, none⟩ = some (.slice xa xl xc) := by
          rw [cell_of_row V _ _ _ _ _ hhV, Array.getElem?_setIfInBounds_ne (by omega), Array.getElem?_setIfInBounds_ne (by omega), Array.getElem?_setIfInBounds_ne (by omega)]; exact HK.out.2
        have zz2 : V.frozen? ⟨g, j * 5 + 3, none⟩ = false := frozen_of_row V _ _ _ _ hhV
        have hA3 := heap_setCell_same V g (j * 5 + 3) _ _ (.string (mt (q + 1 + 1 + 1))) hhV
        obtain ⟨W3, hW3⟩ : ∃ W3, W3 = V.setCell ⟨g, j * 5 + 3, none⟩ (.string (mt (q + 1 + 1 + 1))) := ⟨_, rfl⟩
        rw [← hW3] at hA3
        have hWr3 : Wrote [g] wr W3 := (HWr2.out.trans (Wrote.of_below hBV)).trans (by rw [hW3]; exact Wrote.of_set V g (j * 5 + 3) _)
        have hgf : g ∉ f := fun hm => (List.nodup_cons.1 HND.out).1 (List.mem_flatten.2 ⟨f, List.mem_of_getElem? HK.out.1, hm⟩)
        have hfn : f.Nodup := (nodup_fl fps (List.nodup_cons.1 HND.out).2).1 f (List.mem_of_getElem? HK.out.1)
        have hO3 : ∀ x, x < wr.heap.size → x ≠ g → W3.heap[x]? = wr.heap[x]? := fun x hx hne => hWr3.block x hx (by simpa using hne)
        have ho3 : OwnL d W3 (.slice xa xl xc) b.t.L f := HOo.out.frame fun x hx => hO3 x (HOo.out.lt x hx) (fun e => hgf (e ▸ hx))
        have hC2 := markTermS_any d (.slice xa xl xc) b.t.L f (q + 1 + 1 + 1 + 1) W3 ho3 hfn (by omega) (by omega)
        have HW3 : Hid (W3 = _) := hW3
        have HA3 : Hid (W3.heap[g]? = _) := hA3
        have HP3 : Hid ((∀ x, x < wr.heap.size → x ≠ g → W3.heap[x]? = wr.heap[x]?) ∧ wr.heap.size ≤ W3.heap.size ∧ Wrote [g] wr W3 ∧ g ∉ f) := ⟨hO3, hWr3.size, hWr3, hgf⟩
        rw [hW3] at hC2
        clear hW3 hA3 ho3 hO3 hWr3 hfn hBV hhV HW2
        go_wp2_with fail
        refine hC2.mono ?_
        clear hC2
        rintro e V2 ⟨rfl, hown2, hwr2⟩
        rw [← HW3.out] at hwr2
        have hhF := (hwr2.block g (lt_row HA3.out) HP3.out.2.2.2).trans HA3.out
        have hwF : Wrote (g :: fps.flatten) w V2 := (hwr.trans (HP3.out.2.2.1.mono fun x hx => by simp at hx; simp [hx])).trans (hwr2.mono fun x hx => List.mem_cons_of_mem _ (List.mem_flatten.2 ⟨f, List.mem_of_getElem? HK.out.1, hx⟩))
        have HHN : Hid (HalfB d bs (j + 1) V2 _ fps) := half_next (g := g) (cur3 := (((cur.setIfInBounds (j * 5) (.string (mt q))).setIfInBounds (j * 5 + 1) (.int .i64 (q + 1))).setIfInBounds (j * 5 + 2) (.int .i64 (q + 1 + 1))).setIfInBounds (j * 5 + 3) (.string (mt (q + 1 + 1 + 1)))) HHf.out HK.out.1 HND.out HP3.out.1 hwr2 HP3.out.2.1
          (fun x hx => by rw [Array.getElem?_setIfInBounds_ne (by omega), Array.getElem?_setIfInBounds_ne (by omega), Array.getElem?_setIfInBounds_ne (by omega), Array.getElem?_setIfInBounds_ne (by omega)])
        have HHF : Hid (V2.heap[g]? = some (.cells ((((cur.setIfInBounds (j * 5) (.string (mt q))).setIfInBounds (j * 5 + 1) (.int .i64 (q + 1))).setIfInBounds (j * 5 + 2) (.int .i64 (q + 1 + 1))).setIfInBounds (j * 5 + 3) (.string (mt (q + 1 + 1 + 1)))) 63 (0, 0))) := hhF
        clear hown2 hwr2 hhF t2 t3 zz2
        go_wp2
        go_roundw
        case rel => exact ⟨j + 1, _, _, by omega, by go_num, rfl, by omega, HN.out, HHF.out, HHN, hwF⟩
        case measure => simp [intOf]; omega
      · clear hh HHf
        go_wp2
        go_ret
        exact ⟨q, rfl, hq0, hwr⟩

end Go.Proofs.Ytjdhkhpdhblhbaa
