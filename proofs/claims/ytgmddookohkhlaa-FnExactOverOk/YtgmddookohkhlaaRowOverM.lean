/- The law's own measure, copy and comparison of lists of structs. -/
import Derived.Test.YtgmddookohkhlaaTmM
import Derived.Test.YtgmddookohkhlaaOkM
import Derived.BigQuiet
namespace Go.Proofs.Ytgmddookohkhlaa
open Go.RowKit
set_option linter.unusedVariables false

/-- The cells of Over. -/
def ShOver (vs : List Value) : Prop := ∃ (i0 : Int) (i1 : Int) (i2 : Int) (a3 : Option Addr) (l3 c3 : Nat) (a4 : Option Addr) (l4 c4 : Nat) (a5 : Option Addr) (l5 c5 : Nat) (t6 : Bool), vs = [.int .i64 i0, .int .i64 i1, .int .i64 i2, .slice a3 l3 c3, .slice a4 l4 c4, .slice a5 l5 c5, .bool t6]

set_option maxHeartbeats 1000000 in
theorem szOverS_of {α : Type} (R : World → List Value → α → Prop) (P : α → Prop) (f : α → Nat) (hR : Lasts R) (hS : ∀ w vs x, R w vs x → ShOver vs) (H : SzEl 7 R P f) : SzLs 12 7 R P f := by
  intro v xs left w hr hw h0 h1
  obtain ⟨a, c, rfl, hel⟩ := hr
  have HE : Hid (∀ (i : Nat) (x : α), xs[i]? = some x → ∃ b o vs, a = some ⟨b, o, none⟩ ∧ vs.length = 7 ∧ (∀ (j : Nat) (u : Value), vs[j]? = some u → w.cell? ⟨b, o + i * 7 + j, none⟩ = some u) ∧ R w vs x) := hel
  have HW : Hid (WfRow P xs) := hw
  have hm : xs.length ≤ 9223372036854775807 := hw.1
  clear hel hw
  obtain ⟨len, hlen⟩ : ∃ len, xs.length = len := ⟨_, rfl⟩
  have HLN : Hid (xs.length = len) := hlen
  rw [hlen] at hm ⊢
  clear hlen
  by_cases hlt : left < len
  · have HF : Hid ((-1 : Int) = lft left (szRow f xs)) := by show _ = _; have := sumP_all f xs; rw [HLN.out] at this; unfold lft; rw [if_neg (by omega)]
    go_enter Try.func12, Try.ntmps12
    go_wp2
    go_ret
    exact ⟨tret1 HF.out, Below.refl _ _⟩
  · go_enter Try.func12, Try.ntmps12
    go_wp2_with fail
    go_loopw [1, 5] (fun x i wr => ∃ k : Nat, k ≤ len ∧ i = .int .i64 k ∧ x = .int .i64 (left - len - sumP f xs k) ∧ 0 ≤ left - (len : Int) - sumP f xs k ∧ Below w.heap.size w wr) (fun _ i _ => len - (intOf i).toNat)
    case atStart => exact ⟨0, Nat.zero_le _, rfl, by simp [sumP], by simp [sumP]; omega, Below.refl _ _⟩
    case round =>
      obtain ⟨k, hk, rfl, rfl, hx0, hb⟩ := hrel
      obtain ⟨x, hx⟩ : ∃ x, left - (len : Int) - sumP f xs k = x := ⟨_, rfl⟩
      have HX : Hid (left - (len : Int) - sumP f xs k = x) := hx
      rw [hx] at hx0 ⊢
      have hx1 : x ≤ 1048576 := by omega
      clear hx
      by_cases hkl : k < len
      · obtain ⟨t, ht⟩ : ∃ t, xs[k]? = some t := ⟨_, List.getElem?_eq_getElem (by rw [HLN.out]; exact hkl)⟩
        obtain ⟨b, o, vs, rfl, hvl, hcell, hrt⟩ := HE.out k t ht
        obtain ⟨i0, i1, i2, a3, l3, c3, a4, l4, c4, a5, l5, c5, t6, rfl⟩ := hS _ _ _ hrt
        have hpt := HW.out.2 t (List.mem_of_getElem? ht)
        have f0 : wr.cell? ⟨b, o + k * 7, none⟩ = some _ := cell_later hb (hcell 0 _ rfl)
        have f1 : wr.cell? ⟨b, o + k * 7 + 1, none⟩ = some _ := cell_later hb (hcell 1 _ rfl)
        have f2 : wr.cell? ⟨b, o + k * 7 + 2, none⟩ = some _ := cell_later hb (hcell 2 _ rfl)
        have f3 : wr.cell? ⟨b, o + k * 7 + 3, none⟩ = some _ := cell_later hb (hcell 3 _ rfl)
        have f4 : wr.cell? ⟨b, o + k * 7 + 4, none⟩ = some _ := cell_later hb (hcell 4 _ rfl)
        have f5 : wr.cell? ⟨b, o + k * 7 + 5, none⟩ = some _ := cell_later hb (hcell 5 _ rfl)
        have f6 : wr.cell? ⟨b, o + k * 7 + 6, none⟩ = some _ := cell_later hb (hcell 6 _ rfl)
        have hC := H _ t x wr (hR _ _ _ _ hrt hb) hpt hx0 hx1
        have hstep := sumP_succ f xs k t ht
        obtain ⟨y, hy⟩ : ∃ y, lft x (f t) = y := ⟨_, rfl⟩
        rw [hy] at hC
        clear hcell hrt hpt hvl
        by_cases hneg : y < 0
        · have HF : Hid ((-1 : Int) = lft left (szRow f xs)) := by
            have h1 := sumP_all f xs
            have h2 := sumP_le f xs (k + 1)
            have h3 := HX.out
            have h5 := HLN.out
            have h6 : szRow f xs = xs.length + (xs.map f).sum := rfl
            unfold lft at hy
            show _ = _
            by_cases h4 : ((f t : Nat) : Int) ≤ x
            · rw [if_pos h4] at hy; omega
            · unfold lft; rw [if_neg (by omega)]
          clear hy hstep HX
          go_wp2_with fail
          refine hC.mono ?_
          clear hC
          rintro e w1 ⟨rfl, hb1⟩
          have hb2 : Below w.heap.size w w1 := hb.trans (hb1.mono hb.size)
          clear hb1 hb f0 f1 f2 f3 f4 f5 f6
          go_wp2
          go_ret
          exact ⟨tret1 HF.out, hb2⟩
        · have HY : Hid (y = left - (len : Int) - sumP f xs (k + 1) ∧ 0 ≤ left - (len : Int) - sumP f xs (k + 1)) := by
            have h3 := HX.out
            unfold lft at hy
            by_cases h4 : ((f t : Nat) : Int) ≤ x
            · rw [if_pos h4] at hy; show _ ∧ _; omega
            · rw [if_neg h4] at hy; omega
          clear hy hstep HX
          go_wp2_with fail
          refine hC.mono ?_
          clear hC
          rintro e w1 ⟨rfl, hb1⟩
          have hb2 : Below w.heap.size w w1 := hb.trans (hb1.mono hb.size)
          clear hb1 hb f0 f1 f2 f3 f4 f5 f6
          go_wp2
          go_roundw
          case rel => exact ⟨k + 1, by omega, by go_num, by rw [HY.out.1], HY.out.2, hb2⟩
          case measure => simp [intOf]; omega
      · have HF : Hid (x = lft left (szRow f xs)) := by
          have h1 := sumP_all f xs
          have h3 := HX.out
          have h5 := HLN.out
          have hk' : k = xs.length := by omega
          rw [hk'] at h3
          unfold lft; rw [if_pos (by omega)]; show _ = _; omega
        clear HX
        go_wp2
        go_ret
        exact ⟨tret1 HF.out, hb⟩

theorem Try.infoOver : (Try.prog.info? 30).map (fun i => (i.zero, i.size, i.bytes)) = some (some (.agg #[.int .i64 0, .int .i64 0, .int .i64 0, .slice none 0 0, .slice none 0 0, .slice none 0 0, .bool false]), 7, 104) := by kernel_rfl

set_option maxHeartbeats 2000000 in
theorem toOverS_of {α : Type} (R : World → List Value → α → Prop) (O : World → List Value → α → List Nat → Prop) (P : α → Prop) (f : α → Nat) (hR : Lasts R) (hO : LastsO O) (hS : ∀ w vs x, R w vs x → ShOver vs) (hSO : ∀ w vs x fp, O w vs x fp → ShOver vs) (H : ToEl 9 R O P f) : ToLs 14 7 30 R O P f := by
  obtain ⟨i0, hi, hz0, hz1, hz2⟩ := info_parts Try.infoOver
  intro v xs w hr hw hz
  obtain ⟨a, c, rfl, hel⟩ := hr
  have HE : Hid (∀ (i : Nat) (x : α), xs[i]? = some x → ∃ b o vs, a = some ⟨b, o, none⟩ ∧ vs.length = 7 ∧ (∀ (j : Nat) (u : Value), vs[j]? = some u → w.cell? ⟨b, o + i * 7 + j, none⟩ = some u) ∧ R w vs x) := hel
  have HW : Hid (WfRow P xs) := hw
  obtain ⟨len, hlen⟩ : ∃ len, xs.length = len := ⟨_, rfl⟩
  have HLN : Hid (xs.length = len) := hlen
  have hm : len ≤ 1048576 := by have := sumP_all f xs; omega
  have HZ : Hid (szRow f xs ≤ 1048576) := hz
  rw [hlen]
  clear hlen hel hw hz
  go_enter Try.func14, Try.ntmps14
  go_wp2_with (at_make; refine wpList_make_full _ rfl _ _ 37 rfl w.heap.size 30 i0 _ 7 Try.underlying37 hi hz0 hz1 _ _ _ _ len rfl rfl rfl rfl (by rw [hz2]; omega) (by unfold maxLen; omega) (Nat.le_refl _) ?_)
  intro w1 hown hgrow
  have hbel : Below w.heap.size w w1 := (Below.refl _ _).grown hgrow (Nat.le_refl _) (fun _ h => by cases h)
  obtain ⟨cur0, hc0, hs0⟩ : ∃ cur, w1.heap[w.heap.size]? = some (.cells cur 30 (0, 0)) ∧ cur.size = len * 7 := by
    rcases hown.2 with ⟨h', _⟩ | ⟨g', cap', cur, h', _, hg, _, _, hs, _⟩
    · simp at h'
    · simp only [Value.slice.injEq, Option.some.injEq, Addr.mk.injEq, and_true, true_and] at h'
      obtain ⟨rfl, rfl⟩ := h'
      exact ⟨cur, hg, hs⟩
  clear hown hgrow
  go_wp2
  go_loopw [4] (fun i wr => ∃ (k : Nat) (cur : Array Value) (fps : List (List Nat)), k ≤ len ∧ i = .int .i64 k ∧ wr.heap[w.heap.size]? = some (.cells cur 30 (0, 0)) ∧ cur.size = len * 7 ∧ fps.length = k ∧ fps.flatten.Nodup ∧ (∀ g ∈ fps.flatten, w.heap.size < g ∧ g < wr.heap.size) ∧ Below w.heap.size w wr ∧ Hid (DoneRow 7 O xs k wr cur fps)) (fun i _ => len - (intOf i).toNat)
  case atStart => exact ⟨0, cur0, [], Nat.zero_le _, rfl, hc0, hs0, rfl, by simp, by simp, hbel, fun i t hi => by omega⟩
  case round =>
    obtain ⟨k, cur, fps, hk, rfl, hh, hcs, hfl, hnd, hfr, hb, HD⟩ := hrel
    have HH : Hid (wr.heap[w.heap.size]? = some (.cells cur 30 (0, 0))) := hh
    have HFL : Hid (fps.length = k) := hfl
    have HCS : Hid (cur.size = len * 7) := hcs
    have HND : Hid (fps.flatten.Nodup ∧ (∀ g ∈ fps.flatten, w.heap.size < g ∧ g < wr.heap.size) ∧ Below w.heap.size w wr) := ⟨hnd, hfr, hb⟩
    have hwz : w.heap.size < wr.heap.size := Nat.lt_of_not_le fun hn => by simp [Array.getElem?_eq_none hn] at hh
    clear hc0 hs0 hbel hh hfl hcs hnd hfr
    by_cases hkl : k < len
    · obtain ⟨t, ht⟩ : ∃ t, xs[k]? = some t := ⟨_, List.getElem?_eq_getElem (by rw [HLN.out]; exact hkl)⟩
      obtain ⟨b, o, vs, rfl, hvl, hcell, hrt⟩ := HE.out k t ht
      obtain ⟨i0, i1, i2, a3, l3, c3, a4, l4, c4, a5, l5, c5, t6, rfl⟩ := hS _ _ _ hrt
      have hpt := HW.out.2 t (List.mem_of_getElem? ht)
      have f0 : wr.cell? ⟨b, o + k * 7, none⟩ = some _ := cell_later hb (hcell 0 _ rfl)
      have f1 : wr.cell? ⟨b, o + k * 7 + 1, none⟩ = some _ := cell_later hb (hcell 1 _ rfl)
      have f2 : wr.cell? ⟨b, o + k * 7 + 2, none⟩ = some _ := cell_later hb (hcell 2 _ rfl)
      have f3 : wr.cell? ⟨b, o + k * 7 + 3, none⟩ = some _ := cell_later hb (hcell 3 _ rfl)
      have f4 : wr.cell? ⟨b, o + k * 7 + 4, none⟩ = some _ := cell_later hb (hcell 4 _ rfl)
      have f5 : wr.cell? ⟨b, o + k * 7 + 5, none⟩ = some _ := cell_later hb (hcell 5 _ rfl)
      have f6 : wr.cell? ⟨b, o + k * 7 + 6, none⟩ = some _ := cell_later hb (hcell 6 _ rfl)
      have hzt : f t ≤ 1048576 := Nat.le_trans (szRow_mem ht) HZ.out
      have hC := H _ t wr (hR _ _ _ _ hrt hb) hpt hzt
      have HTT : Hid (xs[k]? = some t) := ht
      clear hcell hrt hpt hvl hb ht
      go_wp2_with fail
      refine hC.mono ?_
      clear hC
      rintro e w2 ⟨vs2, fp, rfl, hown, hfr2, hb2⟩
      have hh2 : w2.heap[w.heap.size]? = some (.cells cur 30 (0, 0)) := (hb2.block _ hwz).trans HH.out
      have hc4 : ∀ j, j < 7 → ∃ v, w2.cell? ⟨w.heap.size, k * 7 + j, none⟩ = some v := fun j hj => by
        rw [cell_of_row w2 _ _ _ _ _ hh2]
        exact ⟨_, Array.getElem?_eq_getElem (by have := HCS.out; omega)⟩
      obtain ⟨v0, c0'⟩ := hc4 0 (by omega)
      obtain ⟨v1, c1'⟩ := hc4 1 (by omega)
      obtain ⟨v2, c2'⟩ := hc4 2 (by omega)
      obtain ⟨v3, c3'⟩ := hc4 3 (by omega)
      obtain ⟨v4, c4'⟩ := hc4 4 (by omega)
      obtain ⟨v5, c5'⟩ := hc4 5 (by omega)
      obtain ⟨v6, c6'⟩ := hc4 6 (by omega)
      rw [Nat.add_zero] at c0'
      have z0 : w2.frozen? ⟨w.heap.size, k * 7, none⟩ = false := frozen_of_row w2 _ _ _ _ hh2
      have z1 : w2.frozen? ⟨w.heap.size, k * 7 + 1, none⟩ = false := frozen_of_row w2 _ _ _ _ hh2
      have z2 : w2.frozen? ⟨w.heap.size, k * 7 + 2, none⟩ = false := frozen_of_row w2 _ _ _ _ hh2
      have z3 : w2.frozen? ⟨w.heap.size, k * 7 + 3, none⟩ = false := frozen_of_row w2 _ _ _ _ hh2
      have z4 : w2.frozen? ⟨w.heap.size, k * 7 + 4, none⟩ = false := frozen_of_row w2 _ _ _ _ hh2
      have z5 : w2.frozen? ⟨w.heap.size, k * 7 + 5, none⟩ = false := frozen_of_row w2 _ _ _ _ hh2
      have z6 : w2.frozen? ⟨w.heap.size, k * 7 + 6, none⟩ = false := frozen_of_row w2 _ _ _ _ hh2
      obtain ⟨yi0, yi1, yi2, ya3, yl3, yc3, ya4, yl4, yc4, ya5, yl5, yc5, yt6, rfl⟩ := hSO _ _ _ _ hown
      obtain ⟨S1, S2, S3, S4, S5, S6, S7⟩ := row_step hO hkl HCS.out HFL.out HND.out.1 HND.out.2.1 hwz HND.out.2.2 hb2 HD.out HTT.out rfl hown hfr2 hh2
      have HS : Hid ((_ ∧ _ ∧ _ ∧ _ ∧ _ ∧ _) ∧ _) := ⟨⟨S1, S2, S3, S4, S5, S6⟩, S7⟩
      clear S1 S2 S3 S4 S5 S6 S7 hc4 hh2 f0 f1 f2 f3 f4 f5 f6 hown hfr2 hb2
      go_wp2
      go_roundw
      case rel => exact ⟨k + 1, _, _, by omega, by go_num, HS.out.1.1, HS.out.1.2.1, HS.out.1.2.2.1, HS.out.1.2.2.2.1, HS.out.1.2.2.2.2.1, HS.out.1.2.2.2.2.2, HS.out.2⟩
      case measure => simp [intOf]; omega
    · obtain rfl : k = len := by omega
      have HO := row_done (T := 30) (w := w) HLN.out HFL.out HND.out.1 HND.out.2.1 hwz HH.out HD.out
      have HFF : Hid _ := HO
      clear HO
      go_wp2
      go_ret
      exact ⟨_, _, _, _, rfl, HFF.out.1, HFF.out.2, hb⟩

set_option maxHeartbeats 1000000 in
theorem eqOverS_of {α : Type} (R : World → List Value → α → Prop) (P : α → Prop) (hR : Lasts R) (hS : ∀ w vs x, R w vs x → ShOver vs) (H : EqEl 11 R P) : EqLs 16 7 R P := by
  intro v1 v2 xs w h1 h2 hw
  obtain ⟨a1, c1, rfl, e1⟩ := h1
  obtain ⟨a2, c2, rfl, e2⟩ := h2
  have HE1 : Hid (∀ (i : Nat) (x : α), xs[i]? = some x → ∃ b o vs, a1 = some ⟨b, o, none⟩ ∧ vs.length = 7 ∧ (∀ (j : Nat) (u : Value), vs[j]? = some u → w.cell? ⟨b, o + i * 7 + j, none⟩ = some u) ∧ R w vs x) := e1
  have HE2 : Hid (∀ (i : Nat) (x : α), xs[i]? = some x → ∃ b o vs, a2 = some ⟨b, o, none⟩ ∧ vs.length = 7 ∧ (∀ (j : Nat) (u : Value), vs[j]? = some u → w.cell? ⟨b, o + i * 7 + j, none⟩ = some u) ∧ R w vs x) := e2
  have HW : Hid (WfRow P xs) := hw
  have hm : xs.length ≤ 9223372036854775807 := hw.1
  obtain ⟨len, hlen⟩ : ∃ len, xs.length = len := ⟨_, rfl⟩
  have HLN : Hid (xs.length = len) := hlen
  rw [hlen] at hm ⊢
  clear hlen e1 e2 hw
  go_enter Try.func16, Try.ntmps16
  go_wp2_with fail
  go_loopw [5] (fun i wr => ∃ k : Nat, k ≤ len ∧ i = .int .i64 k ∧ Below w.heap.size w wr) (fun i _ => len - (intOf i).toNat)
  case atStart => exact ⟨0, Nat.zero_le _, rfl, Below.refl _ _⟩
  case round =>
    obtain ⟨k, hk, rfl, hb⟩ := hrel
    by_cases hkl : k < len
    · obtain ⟨t, ht⟩ : ∃ t, xs[k]? = some t := ⟨_, List.getElem?_eq_getElem (by rw [HLN.out]; exact hkl)⟩
      obtain ⟨b, o, vs, rfl, hvl, hcell, hr1⟩ := HE1.out k t ht
      obtain ⟨b2, o2, vs2, rfl, hvl2, hcell2, hr2⟩ := HE2.out k t ht
      obtain ⟨i0, i1, i2, a3, l3, c3, a4, l4, c4, a5, l5, c5, t6, rfl⟩ := hS _ _ _ hr1
      obtain ⟨yi0, yi1, yi2, ya3, yl3, yc3, ya4, yl4, yc4, ya5, yl5, yc5, yt6, rfl⟩ := hS _ _ _ hr2
      have hpt := HW.out.2 t (List.mem_of_getElem? ht)
      have f0 : wr.cell? ⟨b, o + k * 7, none⟩ = some _ := cell_later hb (hcell 0 _ rfl)
      have f1 : wr.cell? ⟨b, o + k * 7 + 1, none⟩ = some _ := cell_later hb (hcell 1 _ rfl)
      have f2 : wr.cell? ⟨b, o + k * 7 + 2, none⟩ = some _ := cell_later hb (hcell 2 _ rfl)
      have f3 : wr.cell? ⟨b, o + k * 7 + 3, none⟩ = some _ := cell_later hb (hcell 3 _ rfl)
      have f4 : wr.cell? ⟨b, o + k * 7 + 4, none⟩ = some _ := cell_later hb (hcell 4 _ rfl)
      have f5 : wr.cell? ⟨b, o + k * 7 + 5, none⟩ = some _ := cell_later hb (hcell 5 _ rfl)
      have f6 : wr.cell? ⟨b, o + k * 7 + 6, none⟩ = some _ := cell_later hb (hcell 6 _ rfl)
      have g0 : wr.cell? ⟨b2, o2 + k * 7, none⟩ = some _ := cell_later hb (hcell2 0 _ rfl)
      have g1 : wr.cell? ⟨b2, o2 + k * 7 + 1, none⟩ = some _ := cell_later hb (hcell2 1 _ rfl)
      have g2 : wr.cell? ⟨b2, o2 + k * 7 + 2, none⟩ = some _ := cell_later hb (hcell2 2 _ rfl)
      have g3 : wr.cell? ⟨b2, o2 + k * 7 + 3, none⟩ = some _ := cell_later hb (hcell2 3 _ rfl)
      have g4 : wr.cell? ⟨b2, o2 + k * 7 + 4, none⟩ = some _ := cell_later hb (hcell2 4 _ rfl)
      have g5 : wr.cell? ⟨b2, o2 + k * 7 + 5, none⟩ = some _ := cell_later hb (hcell2 5 _ rfl)
      have g6 : wr.cell? ⟨b2, o2 + k * 7 + 6, none⟩ = some _ := cell_later hb (hcell2 6 _ rfl)
      have hkl' : (k : Int) < (len : Int) := by omega
      have HC : Hid (∀ W : World, Below wr.heap.size wr W → _) := fun W hW => H _ _ t W (hR _ _ _ _ (hR _ _ _ _ hr1 hb) hW) (hR _ _ _ _ (hR _ _ _ _ hr2 hb) hW) hpt
      clear hcell hcell2 hr1 hr2 hpt hvl hvl2
      have hn0 := After.some wr
      have p0 := After.cell f0
      have p1 := After.cell f1
      have p2 := After.cell f2
      have p3 := After.cell f3
      have p4 := After.cell f4
      have p5 := After.cell f5
      have p6 := After.cell f6
      have q0 := After.cell g0
      have q1 := After.cell g1
      have q2 := After.cell g2
      have q3 := After.cell g3
      have q4 := After.cell g4
      have q5 := After.cell g5
      have q6 := After.cell g6
      go_wp2_with fail
      refine wp_region_after (by kernel_rfl) (by kernel_rfl) ?_
      repeat (go_big_quiet_step ((go_at_call 11; exact calls_after (HC.out _ (After.bel _)))))
      refine wpQuiet_nil ?_
      rintro _ ⟨nq, rfl⟩
      have hb2 : Below w.heap.size w nq.now := hb.trans (nq.bel.mono hb.size)
      clear hb f0 f1 f2 f3 f4 f5 f6 g0 g1 g2 g3 g4 g5 g6 p0 q0 p1 q1 p2 q2 p3 q3 p4 q4 p5 q5 p6 q6
      go_wp2
      go_roundw
      case rel => exact ⟨k + 1, by omega, by go_num, hb2⟩
      case measure => simp [intOf]; omega
    · go_wp2
      go_ret
      exact ⟨rfl, hb⟩

end Go.Proofs.Ytgmddookohkhlaa
