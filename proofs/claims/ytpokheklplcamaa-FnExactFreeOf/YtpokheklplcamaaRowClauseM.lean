/- The law's own measure, copy and comparison of lists of structs. -/
import Derived.Test.YtpokheklplcamaaTmM
import Derived.BigQuiet
namespace Go.Proofs.Ytpokheklplcamaa
open Go.RowKit
set_option linter.unusedVariables false

/-- The cells of Clause. -/
def ShClause (vs : List Value) : Prop := ∃ (i0 : Int) (i1 : Int) (s2 : ByteArray) (a3 : Option Addr) (l3 c3 : Nat) (a4 : Option Addr) (l4 c4 : Nat) (i5 : Int) (i6 : Int) (s7 : ByteArray) (a8 : Option Addr) (l8 c8 : Nat) (a9 : Option Addr) (l9 c9 : Nat), vs = [.int .i64 i0, .int .i64 i1, .string s2, .slice a3 l3 c3, .slice a4 l4 c4, .int .i64 i5, .int .i64 i6, .string s7, .slice a8 l8 c8, .slice a9 l9 c9]

set_option maxHeartbeats 1000000 in
theorem szClauseS_of {α : Type} (R : World → List Value → α → Prop) (P : α → Prop) (f : α → Nat) (hR : Lasts R) (hS : ∀ w vs x, R w vs x → ShClause vs) (H : SzEl 78 R P f) : SzLs 45 10 R P f := by
  intro v xs left w hr hw h0 h1
  obtain ⟨a, c, rfl, hel⟩ := hr
  have HE : Hid (∀ (i : Nat) (x : α), xs[i]? = some x → ∃ b o vs, a = some ⟨b, o, none⟩ ∧ vs.length = 10 ∧ (∀ (j : Nat) (u : Value), vs[j]? = some u → w.cell? ⟨b, o + i * 10 + j, none⟩ = some u) ∧ R w vs x) := hel
  have HW : Hid (WfRow P xs) := hw
  have hm : xs.length ≤ 9223372036854775807 := hw.1
  clear hel hw
  obtain ⟨len, hlen⟩ : ∃ len, xs.length = len := ⟨_, rfl⟩
  have HLN : Hid (xs.length = len) := hlen
  rw [hlen] at hm ⊢
  clear hlen
  by_cases hlt : left < len
  · have HF : Hid ((-1 : Int) = lft left (szRow f xs)) := by show _ = _; have := sumP_all f xs; rw [HLN.out] at this; unfold lft; rw [if_neg (by omega)]
    go_enter Try.func45, Try.ntmps45
    go_wp2
    go_ret
    exact ⟨tret1 HF.out, Below.refl _ _⟩
  · go_enter Try.func45, Try.ntmps45
    go_wp2_with fail
    go_loopw [1, 5] (fun x i wr => ∃ k : Nat, k ≤ len ∧ i = .int .i64 k ∧ x = .int .i64 (left - len - sumP f xs k) ∧ 0 ≤ left - (len : Int) - sumP f xs k ∧ Below w.heap.size w wr) (fun _ i _ => len - (intOf i).toNat)
    case atStart => exact ⟨0, Nat.zero_le _, rfl, by simp [sumP], by simp [sumP]; omega, Below.refl _ _⟩
    case round =>
      obtain ⟨k, hk, rfl, rfl, hx0, hb⟩ := hrel
      obtain ⟨x, hx⟩ : ∃ x, left - (len : Int) - sumP f xs k = x := ⟨_, rfl⟩
      have HX : Hid (left - (len : Int) - sumP f xs k = x) := hx
      rw [hx] at hx0 ⊢
      have hx1 : x ≤ 1048576 := by omega
      clear hx
      by_cases hkl : k < len
      · obtain ⟨t, ht⟩ : ∃ t, xs[k]? = some t := ⟨_, List.getElem?_eq_getElem (by rw [HLN.out]; exact hkl)⟩
        obtain ⟨b, o, vs, rfl, hvl, hcell, hrt⟩ := HE.out k t ht
        obtain ⟨i0, i1, s2, a3, l3, c3, a4, l4, c4, i5, i6, s7, a8, l8, c8, a9, l9, c9, rfl⟩ := hS _ _ _ hrt
        have hpt := HW.out.2 t (List.mem_of_getElem? ht)
        have f0 : wr.cell? ⟨b, o + k * 10, none⟩ = some _ := cell_later hb (hcell 0 _ rfl)
        have f1 : wr.cell? ⟨b, o + k * 10 + 1, none⟩ = some _ := cell_later hb (hcell 1 _ rfl)
        have f2 : wr.cell? ⟨b, o + k * 10 + 2, none⟩ = some _ := cell_later hb (hcell 2 _ rfl)
        have f3 : wr.cell? ⟨b, o + k * 10 + 3, none⟩ = some _ := cell_later hb (hcell 3 _ rfl)
        have f4 : wr.cell? ⟨b, o + k * 10 + 4, none⟩ = some _ := cell_later hb (hcell 4 _ rfl)
        have f5 : wr.cell? ⟨b, o + k * 10 + 5, none⟩ = some _ := cell_later hb (hcell 5 _ rfl)
        have f6 : wr.cell? ⟨b, o + k * 10 + 6, none⟩ = some _ := cell_later hb (hcell 6 _ rfl)
        have f7 : wr.cell? ⟨b, o + k * 10 + 7, none⟩ = some _ := cell_later hb (hcell 7 _ rfl)
        have f8 : wr.cell? ⟨b, o + k * 10 + 8, none⟩ = some _ := cell_later hb (hcell 8 _ rfl)
        have f9 : wr.cell? ⟨b, o + k * 10 + 9, none⟩ = some _ := cell_later hb (hcell 9 _ rfl)
        have hC := H _ t x wr (hR _ _ _ _ hrt hb) hpt hx0 hx1
        have hstep := sumP_succ f xs k t ht
        obtain ⟨y, hy⟩ : ∃ y, lft x (f t) = y := ⟨_, rfl⟩
        rw [hy] at hC
        clear hcell hrt hpt hvl
        by_cases hneg : y < 0
        · have HF : Hid ((-1 : Int) = lft left (szRow f xs)) := by
            have h1 := sumP_all f xs
            have h2 := sumP_le f xs (k + 1)
            have h3 := HX.out
            have h5 := HLN.out
            have h6 : szRow f xs = xs.length + (xs.map f).sum := rfl
            unfold lft at hy
            show _ = _
            by_cases h4 : ((f t : Nat) : Int) ≤ x
            · rw [if_pos h4] at hy; omega
            · unfold lft; rw [if_neg (by omega)]
          clear hy hstep HX
          go_wp2_with fail
          refine hC.mono ?_
          clear hC
          rintro e w1 ⟨rfl, hb1⟩
          have hb2 : Below w.heap.size w w1 := hb.trans (hb1.mono hb.size)
          clear hb1 hb f0 f1 f2 f3 f4 f5 f6 f7 f8 f9
          go_wp2
          go_ret
          exact ⟨tret1 HF.out, hb2⟩
        · have HY : Hid (y = left - (len : Int) - sumP f xs (k + 1) ∧ 0 ≤ left - (len : Int) - sumP f xs (k + 1)) := by
            have h3 := HX.out
            unfold lft at hy
            by_cases h4 : ((f t : Nat) : Int) ≤ x
            · rw [if_pos h4] at hy; show _ ∧ _; omega
            · rw [if_neg h4] at hy; omega
          clear hy hstep HX
          go_wp2_with fail
          refine hC.mono ?_
          clear hC
          rintro e w1 ⟨rfl, hb1⟩
          have hb2 : Below w.heap.size w w1 := hb.trans (hb1.mono hb.size)
          clear hb1 hb f0 f1 f2 f3 f4 f5 f6 f7 f8 f9
          go_wp2
          go_roundw
          case rel => exact ⟨k + 1, by omega, by go_num, by rw [HY.out.1], HY.out.2, hb2⟩
          case measure => simp [intOf]; omega
      · have HF : Hid (x = lft left (szRow f xs)) := by
          have h1 := sumP_all f xs
          have h3 := HX.out
          have h5 := HLN.out
          have hk' : k = xs.length := by omega
          rw [hk'] at h3
          unfold lft; rw [if_pos (by omega)]; show _ = _; omega
        clear HX
        go_wp2
        go_ret
        exact ⟨tret1 HF.out, hb⟩

theorem Try.infoClause : (Try.prog.info? 33).map (fun i => (i.zero, i.size, i.bytes)) = some (some (.agg #[.int .i64 0, .int .i64 0, .string ⟨#[]⟩, .slice none 0 0, .slice none 0 0, .int .i64 0, .int .i64 0, .string ⟨#[]⟩, .slice none 0 0, .slice none 0 0]), 10, 160) := by kernel_rfl

set_option maxHeartbeats 2000000 in
theorem toClauseS_of {α : Type} (R : World → List Value → α → Prop) (O : World → List Value → α → List Nat → Prop) (P : α → Prop) (f : α → Nat) (hR : Lasts R) (hO : LastsO O) (hS : ∀ w vs x, R w vs x → ShClause vs) (hSO : ∀ w vs x fp, O w vs x fp → ShClause vs) (H : ToEl 79 R O P f) : ToLs 47 10 33 R O P f := by
  obtain ⟨i0, hi, hz0, hz1, hz2⟩ := info_parts Try.infoClause
  intro v xs w hr hw hz
  obtain ⟨a, c, rfl, hel⟩ := hr
  have HE : Hid (∀ (i : Nat) (x : α), xs[i]? = some x → ∃ b o vs, a = some ⟨b, o, none⟩ ∧ vs.length = 10 ∧ (∀ (j : Nat) (u : Value), vs[j]? = some u → w.cell? ⟨b, o + i * 10 + j, none⟩ = some u) ∧ R w vs x) := hel
  have HW : Hid (WfRow P xs) := hw
  obtain ⟨len, hlen⟩ : ∃ len, xs.length = len := ⟨_, rfl⟩
  have HLN : Hid (xs.length = len) := hlen
  have hm : len ≤ 1048576 := by have := sumP_all f xs; omega
  have HZ : Hid (szRow f xs ≤ 1048576) := hz
  rw [hlen]
  clear hlen hel hw hz
  go_enter Try.func47, Try.ntmps47
  go_wp2_with (at_make; refine wpList_make_full _ rfl _ _ 25 rfl w.heap.size 33 i0 _ 10 Try.underlying25 hi hz0 hz1 _ _ _ _ len rfl rfl rfl rfl (by rw [hz2]; omega) (by unfold maxLen; omega) (Nat.le_refl _) ?_)
  intro w1 hown hgrow
  have hbel : Below w.heap.size w w1 := (Below.refl _ _).grown hgrow (Nat.le_refl _) (fun _ h => by cases h)
  obtain ⟨cur0, hc0, hs0⟩ : ∃ cur, w1.heap[w.heap.size]? = some (.cells cur 33 (0, 0)) ∧ cur.size = len * 10 := by
    rcases hown.2 with ⟨h', _⟩ | ⟨g', cap', cur, h', _, hg, _, _, hs, _⟩
    · simp at h'
    · simp only [Value.slice.injEq, Option.some.injEq, Addr.mk.injEq, and_true, true_and] at h'
      obtain ⟨rfl, rfl⟩ := h'
      exact ⟨cur, hg, hs⟩
  clear hown hgrow
  go_wp2
  go_loopw [4] (fun i wr => ∃ (k : Nat) (cur : Array Value) (fps : List (List Nat)), k ≤ len ∧ i = .int .i64 k ∧ wr.heap[w.heap.size]? = some (.cells cur 33 (0, 0)) ∧ cur.size = len * 10 ∧ fps.length = k ∧ fps.flatten.Nodup ∧ (∀ g ∈ fps.flatten, w.heap.size < g ∧ g < wr.heap.size) ∧ Below w.heap.size w wr ∧ Hid (DoneRow 10 O xs k wr cur fps)) (fun i _ => len - (intOf i).toNat)
  case atStart => exact ⟨0, cur0, [], Nat.zero_le _, rfl, hc0, hs0, rfl, by simp, by simp, hbel, fun i t hi => by omega⟩
  case round =>
    obtain ⟨k, cur, fps, hk, rfl, hh, hcs, hfl, hnd, hfr, hb, HD⟩ := hrel
    have HH : Hid (wr.heap[w.heap.size]? = some (.cells cur 33 (0, 0))) := hh
    have HFL : Hid (fps.length = k) := hfl
    have HCS : Hid (cur.size = len * 10) := hcs
    have HND : Hid (fps.flatten.Nodup ∧ (∀ g ∈ fps.flatten, w.heap.size < g ∧ g < wr.heap.size) ∧ Below w.heap.size w wr) := ⟨hnd, hfr, hb⟩
    have hwz : w.heap.size < wr.heap.size := Nat.lt_of_not_le fun hn => by simp [Array.getElem?_eq_none hn] at hh
    clear hc0 hs0 hbel hh hfl hcs hnd hfr
    by_cases hkl : k < len
    · obtain ⟨t, ht⟩ : ∃ t, xs[k]? = some t := ⟨_, List.getElem?_eq_getElem (by rw [HLN.out]; exact hkl)⟩
      obtain ⟨b, o, vs, rfl, hvl, hcell, hrt⟩ := HE.out k t ht
      obtain ⟨i0, i1, s2, a3, l3, c3, a4, l4, c4, i5, i6, s7, a8, l8, c8, a9, l9, c9, rfl⟩ := hS _ _ _ hrt
      have hpt := HW.out.2 t (List.mem_of_getElem? ht)
      have f0 : wr.cell? ⟨b, o + k * 10, none⟩ = some _ := cell_later hb (hcell 0 _ rfl)
      have f1 : wr.cell? ⟨b, o + k * 10 + 1, none⟩ = some _ := cell_later hb (hcell 1 _ rfl)
      have f2 : wr.cell? ⟨b, o + k * 10 + 2, none⟩ = some _ := cell_later hb (hcell 2 _ rfl)
      have f3 : wr.cell? ⟨b, o + k * 10 + 3, none⟩ = some _ := cell_later hb (hcell 3 _ rfl)
      have f4 : wr.cell? ⟨b, o + k * 10 + 4, none⟩ = some _ := cell_later hb (hcell 4 _ rfl)
      have f5 : wr.cell? ⟨b, o + k * 10 + 5, none⟩ = some _ := cell_later hb (hcell 5 _ rfl)
      have f6 : wr.cell? ⟨b, o + k * 10 + 6, none⟩ = some _ := cell_later hb (hcell 6 _ rfl)
      have f7 : wr.cell? ⟨b, o + k * 10 + 7, none⟩ = some _ := cell_later hb (hcell 7 _ rfl)
      have f8 : wr.cell? ⟨b, o + k * 10 + 8, none⟩ = some _ := cell_later hb (hcell 8 _ rfl)
      have f9 : wr.cell? ⟨b, o + k * 10 + 9, none⟩ = some _ := cell_later hb (hcell 9 _ rfl)
      have hzt : f t ≤ 1048576 := Nat.le_trans (szRow_mem ht) HZ.out
      have hC := H _ t wr (hR _ _ _ _ hrt hb) hpt hzt
      have HTT : Hid (xs[k]? = some t) := ht
      clear hcell hrt hpt hvl hb ht
      go_wp2_with fail
      refine hC.mono ?_
      clear hC
      rintro e w2 ⟨vs2, fp, rfl, hown, hfr2, hb2⟩
      have hh2 : w2.heap[w.heap.size]? = some (.cells cur 33 (0, 0)) := (hb2.block _ hwz).trans HH.out
      have hc4 : ∀ j, j < 10 → ∃ v, w2.cell? ⟨w.heap.size, k * 10 + j, none⟩ = some v := fun j hj => by
        rw [cell_of_row w2 _ _ _ _ _ hh2]
        exact ⟨_, Array.getElem?_eq_getElem (by have := HCS.out; omega)⟩
      obtain ⟨v0, c0'⟩ := hc4 0 (by omega)
      obtain ⟨v1, c1'⟩ := hc4 1 (by omega)
      obtain ⟨v2, c2'⟩ := hc4 2 (by omega)
      obtain ⟨v3, c3'⟩ := hc4 3 (by omega)
      obtain ⟨v4, c4'⟩ := hc4 4 (by omega)
      obtain ⟨v5, c5'⟩ := hc4 5 (by omega)
      obtain ⟨v6, c6'⟩ := hc4 6 (by omega)
      obtain ⟨v7, c7'⟩ := hc4 7 (by omega)
      obtain ⟨v8, c8'⟩ := hc4 8 (by omega)
      obtain ⟨v9, c9'⟩ := hc4 9 (by omega)
      rw [Nat.add_zero] at c0'
      have z0 : w2.frozen? ⟨w.heap.size, k * 10, none⟩ = false := frozen_of_row w2 _ _ _ _ hh2
      have z1 : w2.frozen? ⟨w.heap.size, k * 10 + 1, none⟩ = false := frozen_of_row w2 _ _ _ _ hh2
      have z2 : w2.frozen? ⟨w.heap.size, k * 10 + 2, none⟩ = false := frozen_of_row w2 _ _ _ _ hh2
      have z3 : w2.frozen? ⟨w.heap.size, k * 10 + 3, none⟩ = false := frozen_of_row w2 _ _ _ _ hh2
      have z4 : w2.frozen? ⟨w.heap.size, k * 10 + 4, none⟩ = false := frozen_of_row w2 _ _ _ _ hh2
      have z5 : w2.frozen? ⟨w.heap.size, k * 10 + 5, none⟩ = false := frozen_of_row w2 _ _ _ _ hh2
      have z6 : w2.frozen? ⟨w.heap.size, k * 10 + 6, none⟩ = false := frozen_of_row w2 _ _ _ _ hh2
      have z7 : w2.frozen? ⟨w.heap.size, k * 10 + 7, none⟩ = false := frozen_of_row w2 _ _ _ _ hh2
      have z8 : w2.frozen? ⟨w.heap.size, k * 10 + 8, none⟩ = false := frozen_of_row w2 _ _ _ _ hh2
      have z9 : w2.frozen? ⟨w.heap.size, k * 10 + 9, none⟩ = false := frozen_of_row w2 _ _ _ _ hh2
      obtain ⟨yi0, yi1, ys2, ya3, yl3, yc3, ya4, yl4, yc4, yi5, yi6, ys7, ya8, yl8, yc8, ya9, yl9, yc9, rfl⟩ := hSO _ _ _ _ hown
      obtain ⟨S1, S2, S3, S4, S5, S6, S7⟩ := row_step hO hkl HCS.out HFL.out HND.out.1 HND.out.2.1 hwz HND.out.2.2 hb2 HD.out HTT.out rfl hown hfr2 hh2
      have HS : Hid ((_ ∧ _ ∧ _ ∧ _ ∧ _ ∧ _) ∧ _) := ⟨⟨S1, S2, S3, S4, S5, S6⟩, S7⟩
      clear S1 S2 S3 S4 S5 S6 S7 hc4 hh2 f0 f1 f2 f3 f4 f5 f6 f7 f8 f9 hown hfr2 hb2
      go_wp2
      go_roundw
      case rel => exact ⟨k + 1, _, _, by omega, by go_num, HS.out.1.1, HS.out.1.2.1, HS.out.1.2.2.1, HS.out.1.2.2.2.1, HS.out.1.2.2.2.2.1, HS.out.1.2.2.2.2.2, HS.out.2⟩
      case measure => simp [intOf]; omega
    · obtain rfl : k = len := by omega
      have HO := row_done (T := 33) (w := w) HLN.out HFL.out HND.out.1 HND.out.2.1 hwz HH.out HD.out
      have HFF : Hid _ := HO
      clear HO
      go_wp2
      go_ret
      exact ⟨_, _, _, _, rfl, HFF.out.1, HFF.out.2, hb⟩

set_option maxHeartbeats 1000000 in
theorem eqClauseS_of {α : Type} (R : World → List Value → α → Prop) (P : α → Prop) (hR : Lasts R) (hS : ∀ w vs x, R w vs x → ShClause vs) (H : EqEl 80 R P) : EqLs 49 10 R P := by
  intro v1 v2 xs w h1 h2 hw
  obtain ⟨a1, c1, rfl, e1⟩ := h1
  obtain ⟨a2, c2, rfl, e2⟩ := h2
  have HE1 : Hid (∀ (i : Nat) (x : α), xs[i]? = some x → ∃ b o vs, a1 = some ⟨b, o, none⟩ ∧ vs.length = 10 ∧ (∀ (j : Nat) (u : Value), vs[j]? = some u → w.cell? ⟨b, o + i * 10 + j, none⟩ = some u) ∧ R w vs x) := e1
  have HE2 : Hid (∀ (i : Nat) (x : α), xs[i]? = some x → ∃ b o vs, a2 = some ⟨b, o, none⟩ ∧ vs.length = 10 ∧ (∀ (j : Nat) (u : Value), vs[j]? = some u → w.cell? ⟨b, o + i * 10 + j, none⟩ = some u) ∧ R w vs x) := e2
  have HW : Hid (WfRow P xs) := hw
  have hm : xs.length ≤ 9223372036854775807 := hw.1
  obtain ⟨len, hlen⟩ : ∃ len, xs.length = len := ⟨_, rfl⟩
  have HLN : Hid (xs.length = len) := hlen
  rw [hlen] at hm ⊢
  clear hlen e1 e2 hw
  go_enter Try.func49, Try.ntmps49
  go_wp2_with fail
  go_loopw [5] (fun i wr => ∃ k : Nat, k ≤ len ∧ i = .int .i64 k ∧ Below w.heap.size w wr) (fun i _ => len - (intOf i).toNat)
  case atStart => exact ⟨0, Nat.zero_le _, rfl, Below.refl _ _⟩
  case round =>
    obtain ⟨k, hk, rfl, hb⟩ := hrel
    by_cases hkl : k < len
    · obtain ⟨t, ht⟩ : ∃ t, xs[k]? = some t := ⟨_, List.getElem?_eq_getElem (by rw [HLN.out]; exact hkl)⟩
      obtain ⟨b, o, vs, rfl, hvl, hcell, hr1⟩ := HE1.out k t ht
      obtain ⟨b2, o2, vs2, rfl, hvl2, hcell2, hr2⟩ := HE2.out k t ht
      obtain ⟨i0, i1, s2, a3, l3, c3, a4, l4, c4, i5, i6, s7, a8, l8, c8, a9, l9, c9, rfl⟩ := hS _ _ _ hr1
      obtain ⟨yi0, yi1, ys2, ya3, yl3, yc3, ya4, yl4, yc4, yi5, yi6, ys7, ya8, yl8, yc8, ya9, yl9, yc9, rfl⟩ := hS _ _ _ hr2
      have hpt := HW.out.2 t (List.mem_of_getElem? ht)
      have f0 : wr.cell? ⟨b, o + k * 10, none⟩ = some _ := cell_later hb (hcell 0 _ rfl)
      have f1 : wr.cell? ⟨b, o + k * 10 + 1, none⟩ = some _ := cell_later hb (hcell 1 _ rfl)
      have f2 : wr.cell? ⟨b, o + k * 10 + 2, none⟩ = some _ := cell_later hb (hcell 2 _ rfl)
      have f3 : wr.cell? ⟨b, o + k * 10 + 3, none⟩ = some _ := cell_later hb (hcell 3 _ rfl)
      have f4 : wr.cell? ⟨b, o + k * 10 + 4, none⟩ = some _ := cell_later hb (hcell 4 _ rfl)
      have f5 : wr.cell? ⟨b, o + k * 10 + 5, none⟩ = some _ := cell_later hb (hcell 5 _ rfl)
      have f6 : wr.cell? ⟨b, o + k * 10 + 6, none⟩ = some _ := cell_later hb (hcell 6 _ rfl)
      have f7 : wr.cell? ⟨b, o + k * 10 + 7, none⟩ = some _ := cell_later hb (hcell 7 _ rfl)
      have f8 : wr.cell? ⟨b, o + k * 10 + 8, none⟩ = some _ := cell_later hb (hcell 8 _ rfl)
      have f9 : wr.cell? ⟨b, o + k * 10 + 9, none⟩ = some _ := cell_later hb (hcell 9 _ rfl)
      have g0 : wr.cell? ⟨b2, o2 + k * 10, none⟩ = some _ := cell_later hb (hcell2 0 _ rfl)
      have g1 : wr.cell? ⟨b2, o2 + k * 10 + 1, none⟩ = some _ := cell_later hb (hcell2 1 _ rfl)
      have g2 : wr.cell? ⟨b2, o2 + k * 10 + 2, none⟩ = some _ := cell_later hb (hcell2 2 _ rfl)
      have g3 : wr.cell? ⟨b2, o2 + k * 10 + 3, none⟩ = some _ := cell_later hb (hcell2 3 _ rfl)
      have g4 : wr.cell? ⟨b2, o2 + k * 10 + 4, none⟩ = some _ := cell_later hb (hcell2 4 _ rfl)
      have g5 : wr.cell? ⟨b2, o2 + k * 10 + 5, none⟩ = some _ := cell_later hb (hcell2 5 _ rfl)
      have g6 : wr.cell? ⟨b2, o2 + k * 10 + 6, none⟩ = some _ := cell_later hb (hcell2 6 _ rfl)
      have g7 : wr.cell? ⟨b2, o2 + k * 10 + 7, none⟩ = some _ := cell_later hb (hcell2 7 _ rfl)
      have g8 : wr.cell? ⟨b2, o2 + k * 10 + 8, none⟩ = some _ := cell_later hb (hcell2 8 _ rfl)
      have g9 : wr.cell? ⟨b2, o2 + k * 10 + 9, none⟩ = some _ := cell_later hb (hcell2 9 _ rfl)
      have hkl' : (k : Int) < (len : Int) := by omega
      have HC : Hid (∀ W : World, Below wr.heap.size wr W → _) := fun W hW => H _ _ t W (hR _ _ _ _ (hR _ _ _ _ hr1 hb) hW) (hR _ _ _ _ (hR _ _ _ _ hr2 hb) hW) hpt
      clear hcell hcell2 hr1 hr2 hpt hvl hvl2
      have hn0 := After.some wr
      have p0 := After.cell f0
      have p1 := After.cell f1
      have p2 := After.cell f2
      have p3 := After.cell f3
      have p4 := After.cell f4
      have p5 := After.cell f5
      have p6 := After.cell f6
      have p7 := After.cell f7
      have p8 := After.cell f8
      have p9 := After.cell f9
      have q0 := After.cell g0
      have q1 := After.cell g1
      have q2 := After.cell g2
      have q3 := After.cell g3
      have q4 := After.cell g4
      have q5 := After.cell g5
      have q6 := After.cell g6
      have q7 := After.cell g7
      have q8 := After.cell g8
      have q9 := After.cell g9
      go_wp2_with fail
      refine wp_region_after (by kernel_rfl) (by kernel_rfl) ?_
      repeat (go_big_quiet_step ((go_at_call 80; exact calls_after (HC.out _ (After.bel _)))))
      refine wpQuiet_nil ?_
      rintro _ ⟨nq, rfl⟩
      have hb2 : Below w.heap.size w nq.now := hb.trans (nq.bel.mono hb.size)
      clear hb f0 f1 f2 f3 f4 f5 f6 f7 f8 f9 g0 g1 g2 g3 g4 g5 g6 g7 g8 g9 p0 q0 p1 q1 p2 q2 p3 q3 p4 q4 p5 q5 p6 q6 p7 q7 p8 q8 p9 q9
      go_wp2
      go_roundw
      case rel => exact ⟨k + 1, by omega, by go_num, hb2⟩
      case measure => simp [intOf]; omega
    · go_wp2
      go_ret
      exact ⟨rfl, hb⟩

end Go.Proofs.Ytpokheklplcamaa

/- Expressions as data, to whatever depth; the law's own measure, copy and comparison of them. -/
namespace Go.Proofs.Ytpokheklplcamaa
open Go.RowKit
set_option linter.unusedVariables false

/-- An expression of at most d storeys. -/
def Ex : Nat → Type
  | 0 => Empty
  | d + 1 => Int × Int × ByteArray × List (Ex d) × List (Ex d × Ex d)

def Ex.K {d : Nat} (e : Ex (d + 1)) : Int := e.1
def Ex.N {d : Nat} (e : Ex (d + 1)) : Int := e.2.1
def Ex.S {d : Nat} (e : Ex (d + 1)) : ByteArray := e.2.2.1
def Ex.E {d : Nat} (e : Ex (d + 1)) : List (Ex d) := e.2.2.2.1
def Ex.C {d : Nat} (e : Ex (d + 1)) : List (Ex d × Ex d) := e.2.2.2.2
def mkX {d : Nat} (k n : Int) (s : ByteArray) (es : List (Ex d)) (cs : List (Ex d × Ex d)) : Ex (d + 1) := (k, n, s, es, cs)

/-- Two by two. -/
def ClR {α : Type} (R : World → List Value → α → Prop) (w : World) (vs : List Value) (c : α × α) : Prop := ∃ p x, vs = p ++ x ∧ R w p c.1 ∧ R w x c.2
def ClO {α : Type} (O : World → List Value → α → List Nat → Prop) (w : World) (vs : List Value) (c : α × α) (fp : List Nat) : Prop := ∃ p x f g, vs = p ++ x ∧ fp = f ++ g ∧ O w p c.1 f ∧ O w x c.2 g
def ClP {α : Type} (P : α → Prop) (c : α × α) : Prop := P c.1 ∧ P c.2
def ClF {α : Type} (f : α → Nat) (c : α × α) : Nat := f c.1 + f c.2

/-- Five cells that tell an expression. -/
def ExR : (d : Nat) → World → List Value → Ex d → Prop
  | 0, _, _, _ => False
  | d + 1, w, vs, e => ∃ ve vc, vs = [.int .i64 e.K, .int .i64 e.N, .string e.S, ve, vc] ∧ RowOf 5 (ExR d) w ve e.E ∧ RowOf 10 (ClR (ExR d)) w vc e.C

/-- The same in blocks of one's own. -/
def ExO : (d : Nat) → World → List Value → Ex d → List Nat → Prop
  | 0, _, _, _, _ => False
  | d + 1, w, vs, e, fp => ∃ ve vc f g, vs = [.int .i64 e.K, .int .i64 e.N, .string e.S, ve, vc] ∧ fp = f ++ g ∧ OwnRow 5 27 (ExO d) w ve e.E f ∧ OwnRow 10 33 (ClO (ExO d)) w vc e.C g

/-- What every expression in memory is within. -/
def WfX : (d : Nat) → Ex d → Prop
  | 0, _ => False
  | d + 1, e => I64 e.K ∧ I64 e.N ∧ e.S.size ≤ maxLen ∧ WfRow (WfX d) e.E ∧ WfRow (ClP (WfX d)) e.C

/-- How great an expression is. -/
def szX : (d : Nat) → Ex d → Nat
  | 0, _ => 0
  | d + 1, e => e.S.size + szRow (szX d) e.E + szRow (ClF (szX d)) e.C

theorem ClR.lasts {α : Type} {R : World → List Value → α → Prop} (h : Lasts R) : Lasts (ClR R) := by
  rintro w w' vs c ⟨p, x, rfl, h1, h2⟩ hb
  exact ⟨p, x, rfl, h _ _ _ _ h1 hb, h _ _ _ _ h2 hb⟩
theorem ClO.lasts {α : Type} {O : World → List Value → α → List Nat → Prop} (h : LastsO O) : LastsO (ClO O) := by
  rintro w w' vs c fp ⟨p, x, f, g, rfl, rfl, h1, h2⟩ hb
  exact ⟨p, x, f, g, rfl, rfl, h _ _ _ _ _ h1 fun j hj => hb j (List.mem_append_left _ hj), h _ _ _ _ _ h2 fun j hj => hb j (List.mem_append_right _ hj)⟩
theorem ClO.reads {α : Type} {O : World → List Value → α → List Nat → Prop} {R : World → List Value → α → Prop} (h : Reads O R) : Reads (ClO O) (ClR R) := by
  rintro w vs c fp ⟨p, x, f, g, rfl, rfl, h1, h2⟩
  exact ⟨p, x, rfl, h _ _ _ _ h1, h _ _ _ _ h2⟩

theorem ExR.lasts : ∀ d, Lasts (ExR d) := by
  intro d
  induction d with
  | zero => intro w w' vs x h _; exact h.elim
  | succ d ih =>
    rintro w w' vs x ⟨ve, vc, rfl, h1, h2⟩ hb
    exact ⟨ve, vc, rfl, h1.later ih hb, h2.later (ClR.lasts ih) hb⟩
theorem ExO.lasts : ∀ d, LastsO (ExO d) := by
  intro d
  induction d with
  | zero => intro w w' vs x f h _; exact h.elim
  | succ d ih =>
    rintro w w' vs x fp ⟨ve, vc, f, g, rfl, rfl, h1, h2⟩ hb
    exact ⟨ve, vc, f, g, rfl, rfl, h1.frame ih fun j hj => hb j (List.mem_append_left _ hj), h2.frame (ClO.lasts ih) fun j hj => hb j (List.mem_append_right _ hj)⟩
theorem ExO.reads : ∀ d, Reads (ExO d) (ExR d) := by
  intro d
  induction d with
  | zero => intro w vs x f h; exact h.elim
  | succ d ih =>
    rintro w vs x fp ⟨ve, vc, f, g, rfl, rfl, h1, h2⟩
    exact ⟨ve, vc, rfl, h1.rd ih, h2.rd (ClO.reads ih)⟩

theorem ExR.shape : ∀ d w vs x, ExR d w vs x → ShExpr vs := by
  intro d w vs x h
  cases d with
  | zero => exact h.elim
  | succ d =>
    obtain ⟨ve, vc, rfl, h1, h2⟩ := h
    obtain ⟨a, c, rfl⟩ := h1.slice
    obtain ⟨a', c', rfl⟩ := h2.slice
    exact ⟨_, _, _, _, _, _, _, _, _, rfl⟩
theorem sh_two {p x : List Value} (h1 : ShExpr p) (h2 : ShExpr x) : ShClause (p ++ x) := by
  obtain ⟨_, _, _, _, _, _, _, _, _, rfl⟩ := h1
  obtain ⟨_, _, _, _, _, _, _, _, _, rfl⟩ := h2
  exact ⟨_, _, _, _, _, _, _, _, _, _, _, _, _, _, _, _, _, _, rfl⟩
theorem ClR.shape {α : Type} {R : World → List Value → α → Prop} (h : ∀ w vs x, R w vs x → ShExpr vs) : ∀ w vs c, ClR R w vs c → ShClause vs := by
  rintro w vs c ⟨p, x, rfl, h1, h2⟩
  exact sh_two (h _ _ _ h1) (h _ _ _ h2)
theorem ExO.shape : ∀ d w vs x f, ExO d w vs x f → ShExpr vs := fun d w vs x f h => ExR.shape d w vs x (ExO.reads d w vs x f h)
theorem ClO.shape {α : Type} {O : World → List Value → α → List Nat → Prop} (h : ∀ w vs x f, O w vs x f → ShExpr vs) : ∀ w vs c f, ClO O w vs c f → ShClause vs := by
  rintro w vs c fp ⟨p, x, f, g, rfl, rfl, h1, h2⟩
  exact sh_two (h _ _ _ _ h1) (h _ _ _ _ h2)

/-! The measure. -/

theorem lft_two (left : Int) (a b : Nat) (h : 0 ≤ left) : (lft left a < 0 → lft left (a + b) = -1) ∧ (¬ lft left a < 0 → lft (lft left a) b = lft left (a + b) ∧ 0 ≤ lft left a ∧ lft left a ≤ left) := by
  unfold lft
  refine ⟨fun h1 => ?_, fun h1 => ?_⟩
  · by_cases h2 : (a : Int) ≤ left
    · rw [if_pos h2] at h1; omega
    · rw [if_neg (by omega)]
  · by_cases h2 : (a : Int) ≤ left
    · rw [if_pos h2] at h1 ⊢
      refine ⟨?_, by omega, by omega⟩
      by_cases h3 : (b : Int) ≤ left - a
      · rw [if_pos h3, if_pos (by omega)]; omega
      · rw [if_neg h3, if_neg (by omega)]
    · rw [if_neg h2] at h1; omega

set_option maxHeartbeats 1000000 in
theorem szClause_of {α : Type} (R : World → List Value → α → Prop) (P : α → Prop) (f : α → Nat) (hR : Lasts R) (hS : ∀ w vs x, R w vs x → ShExpr vs) (H : SzEl 19 R P f) : SzEl 78 (ClR R) (ClP P) (ClF f) := by
  rintro vs ⟨c1, c2⟩ left w ⟨p, x, rfl, h1, h2⟩ ⟨q1, q2⟩ h0 hm
  obtain ⟨i0, i1, s2, a3, l3, c3, a4, l4, c4, rfl⟩ := hS _ _ _ h1
  obtain ⟨i5, i6, s7, a8, l8, c8, a9, l9, c9, rfl⟩ := hS _ _ _ h2
  have hA : Below w.heap.size w (w.alloc (Obj.cells #[.int .i64 i0, .int .i64 i1, .string s2, .slice a3 l3 c3, .slice a4 l4 c4, .int .i64 i5, .int .i64 i6, .string s7, .slice a8 l8 c8, .slice a9 l9 c9] 134)) := (Below.refl _ _).alloc (Nat.le_refl _) _
  obtain ⟨W, hW⟩ : ∃ W, W = w.alloc (Obj.cells #[.int .i64 i0, .int .i64 i1, .string s2, .slice a3 l3 c3, .slice a4 l4 c4, .int .i64 i5, .int .i64 i6, .string s7, .slice a8 l8 c8, .slice a9 l9 c9] 134) := ⟨_, rfl⟩
  have hWc : W.heap[w.heap.size]? = some (Obj.cells #[.int .i64 i0, .int .i64 i1, .string s2, .slice a3 l3 c3, .slice a4 l4 c4, .int .i64 i5, .int .i64 i6, .string s7, .slice a8 l8 c8, .slice a9 l9 c9] 134 (0, 0)) := by rw [hW]; exact heap_alloc_new w _
  rw [← hW] at hA
  have hC := H _ c1 left W (hR _ _ _ _ h1 hA) q1 h0 hm
  obtain ⟨L1, L2⟩ := lft_two left (f c1) (f c2) h0
  have e0 : ClF f (c1, c2) = f c1 + f c2 := rfl
  rw [e0]
  rw [hW] at hC
  have HW : Hid (W = _) := hW
  have HFR : Hid (∀ V : World, Below W.heap.size W V → R V _ c2) := fun V hV => hR _ _ _ _ (hR _ _ _ _ h2 hA) hV
  have HZ : Hid (w.heap.size < W.heap.size ∧ Below w.heap.size w W) := ⟨lt_row hWc, hA⟩
  have HWC : Hid _ := hWc
  clear hW hA hWc e0 h1 h2 q1
  obtain ⟨y, hy⟩ : ∃ y, lft left (f c1) = y := ⟨_, rfl⟩
  rw [hy] at hC L1 L2
  clear hy
  by_cases hneg : y < 0
  · have HF : Hid (lft left (f c1 + f c2) = -1) := L1 hneg
    clear L1 L2
    go_enter Try.func78, Try.ntmps78
    go_wp2_with fail
    refine hC.mono ?_
    clear hC
    rintro e w1 ⟨rfl, hb1⟩
    rw [← HW.out] at hb1
    have hb2 : Below w.heap.size w w1 := HZ.out.2.trans (hb1.mono HZ.out.2.size)
    clear hb1
    go_wp2
    go_ret
    exact ⟨tret1 HF.out.symm, hb2⟩
  · obtain ⟨E1, E2, E3⟩ := L2 hneg
    clear L1 L2
    obtain ⟨z, hz⟩ : ∃ z, lft y (f c2) = z := ⟨_, rfl⟩
    rw [hz] at E1
    have HE : Hid (z = lft left (f c1 + f c2)) := E1
    have HZN : Hid (z < 0 → z = -1) := fun h => by
      rw [← hz] at h ⊢
      unfold lft at h ⊢
      split at h
      · omega
      · rename_i h4; rw [if_neg h4]
    have hm2 : y ≤ 1048576 := by omega
    go_enter Try.func78, Try.ntmps78
    go_wp2_with fail
    refine hC.mono ?_
    clear hC
    rintro e w1 ⟨rfl, hb1⟩
    rw [← HW.out] at hb1
    have hD := H _ c2 y w1 (HFR.out w1 hb1) q2 E2 hm2
    rw [hz] at hD
    have hh := (hb1.block _ HZ.out.1).trans HWC.out
    have f5 : w1.cell? ⟨w.heap.size, 5, none⟩ = some (.int .i64 i5) := by rw [cell_of_row w1 _ 5 _ _ _ hh]; rfl
    have f6 : w1.cell? ⟨w.heap.size, 6, none⟩ = some (.int .i64 i6) := by rw [cell_of_row w1 _ 6 _ _ _ hh]; rfl
    have f7 : w1.cell? ⟨w.heap.size, 7, none⟩ = some (.string s7) := by rw [cell_of_row w1 _ 7 _ _ _ hh]; rfl
    have f8 : w1.cell? ⟨w.heap.size, 8, none⟩ = some (.slice a8 l8 c8) := by rw [cell_of_row w1 _ 8 _ _ _ hh]; rfl
    have f9 : w1.cell? ⟨w.heap.size, 9, none⟩ = some (.slice a9 l9 c9) := by rw [cell_of_row w1 _ 9 _ _ _ hh]; rfl
    have hb2 : Below w.heap.size w w1 := HZ.out.2.trans (hb1.mono HZ.out.2.size)
    clear hb1 hh hz E1
    go_wp2_with fail
    refine hD.mono ?_
    clear hD f5 f6 f7 f8 f9
    rintro e w2 ⟨rfl, hb3⟩
    have hb4 : Below w.heap.size w w2 := hb2.trans (hb3.mono hb2.size)
    clear hb3 hb2
    by_cases hn2 : z < 0
    · have e1 := HZN.out hn2
      subst e1
      go_wp2
      go_ret
      exact ⟨tret1 HE.out, hb4⟩
    · go_wp2
      go_ret
      exact ⟨tret1 HE.out, hb4⟩

set_option maxHeartbeats 1000000 in
theorem szExpr_of (d : Nat) (HE : SzLs 44 5 (ExR d) (WfX d) (szX d)) (HC : SzLs 45 10 (ClR (ExR d)) (ClP (WfX d)) (ClF (szX d))) : SzEl 19 (ExR (d + 1)) (WfX (d + 1)) (szX (d + 1)) := by
  rintro vs x left w ⟨ve, vc, rfl, h1, h2⟩ ⟨w1, w2, w3, w4, w5⟩ h0 hm
  obtain ⟨a3, c3, rfl⟩ := h1.slice
  obtain ⟨a4, c4, rfl⟩ := h2.slice
  obtain ⟨l3, e3⟩ : ∃ l, x.E.length = l := ⟨_, rfl⟩
  obtain ⟨l4, e4⟩ : ∃ l, x.C.length = l := ⟨_, rfl⟩
  rw [e3] at h1 ⊢
  rw [e4] at h2 ⊢
  have hs : x.S.size ≤ 9223372036854775807 := by unfold maxLen at w3; omega
  obtain ⟨W, hW⟩ : ∃ W, W = w.alloc (Obj.cells #[.int .i64 x.K, .int .i64 x.N, .string x.S, .slice a3 l3 c3, .slice a4 l4 c4] 38) := ⟨_, rfl⟩
  have hA : Below w.heap.size w W := by rw [hW]; exact (Below.refl _ _).alloc (Nat.le_refl _) _
  have hWc : W.heap[w.heap.size]? = some (Obj.cells #[.int .i64 x.K, .int .i64 x.N, .string x.S, .slice a3 l3 c3, .slice a4 l4 c4] 38 (0, 0)) := by rw [hW]; exact heap_alloc_new w _
  obtain ⟨A, hA0⟩ : ∃ A, szRow (szX d) x.E = A := ⟨_, rfl⟩
  obtain ⟨B, hB0⟩ : ∃ B, szRow (ClF (szX d)) x.C = B := ⟨_, rfl⟩
  have e0 : szX (d + 1) x = x.S.size + A + B := by rw [← hA0, ← hB0]; rfl
  rw [e0]
  have HEE := HE _ _ (left - x.S.size) W (h1.later (ExR.lasts d) hA) w4
  have HCC : Hid (∀ V : World, Below W.heap.size W V → ∀ l : Int, 0 ≤ l → l ≤ 1048576 → _) := fun V hV l p1 p2 => HC _ _ l V ((h2.later (ClR.lasts (ExR.lasts d)) hA).later (ClR.lasts (ExR.lasts d)) hV) w5 p1 p2
  rw [hA0] at HEE
  rw [hB0] at HCC
  obtain ⟨K, hK⟩ : ∃ K, x.K = K := ⟨_, rfl⟩
  obtain ⟨N, hN⟩ : ∃ N, x.N = N := ⟨_, rfl⟩
  obtain ⟨S, hS⟩ : ∃ S, x.S = S := ⟨_, rfl⟩
  rw [hK, hN, hS] at hW hWc
  rw [hS] at HEE hs
  rw [hK, hN, hS]
  clear e0 hA0 hB0 w1 w2 w3 w4 w5 h1 h2 e3 e4 HE HC hK hN hS
  by_cases hlt : left < S.size
  · have HF : Hid ((-1 : Int) = lft left (S.size + A + B)) := by unfold lft; rw [if_neg (by omega)]; exact rfl
    rw [hW] at hA
    clear HEE hWc HCC
    go_enter Try.func19, Try.ntmps19
    go_wp2
    go_ret
    exact ⟨tret1 HF.out, hA⟩
  · have hC := HEE (by omega) (by omega)
    obtain ⟨L1, L2⟩ := lft_two (left - S.size) A B (by omega)
    have L0 : lft (left - S.size) (A + B) = lft left (S.size + A + B) := by
      unfold lft
      by_cases h : ((A + B : Nat) : Int) ≤ left - S.size
      · rw [if_pos h, if_pos (by omega)]; omega
      · rw [if_neg h, if_neg (by omega)]
    rw [L0] at L1 L2
    rw [hW] at hC
    have HW : Hid (W = _) := hW
    have HZ : Hid (w.heap.size < W.heap.size ∧ Below w.heap.size w W) := ⟨lt_row hWc, hA⟩
    have HWC : Hid _ := hWc
    clear hW hA hWc HEE L0
    obtain ⟨y, hy⟩ : ∃ y, lft (left - S.size) A = y := ⟨_, rfl⟩
    rw [hy] at hC L1 L2
    clear hy
    by_cases hneg : y < 0
    · have HF : Hid (lft left (S.size + A + B) = -1) := L1 hneg
      clear L1 L2
      go_enter Try.func19, Try.ntmps19
      go_wp2_with fail
      refine hC.mono ?_
      clear hC
      rintro e w1 ⟨rfl, hb1⟩
      rw [← HW.out] at hb1
      have hb2 : Below w.heap.size w w1 := HZ.out.2.trans (hb1.mono HZ.out.2.size)
      clear hb1
      go_wp2
      go_ret
      exact ⟨tret1 HF.out.symm, hb2⟩
    · obtain ⟨E1, E2, E3⟩ := L2 hneg
      clear L1 L2
      obtain ⟨z, hz⟩ : ∃ z, lft y B = z := ⟨_, rfl⟩
      rw [hz] at E1
      have HE : Hid (z = lft left (S.size + A + B)) := E1
      have HZN : Hid (z < 0 → z = -1) := fun h => by
        rw [← hz] at h ⊢
        unfold lft at h ⊢
        split at h
        · omega
        · rename_i h4; rw [if_neg h4]
      have hm2 : y ≤ 1048576 := by omega
      go_enter Try.func19, Try.ntmps19
      go_wp2_with fail
      refine hC.mono ?_
      clear hC
      rintro e w1 ⟨rfl, hb1⟩
      rw [← HW.out] at hb1
      have hD := HCC.out w1 hb1 y E2 hm2
      rw [hz] at hD
      have hh := (hb1.block _ HZ.out.1).trans HWC.out
      have f4 : w1.cell? ⟨w.heap.size, 4, none⟩ = some (.slice a4 l4 c4) := by rw [cell_of_row w1 _ 4 _ _ _ hh]; rfl
      have hb2 : Below w.heap.size w w1 := HZ.out.2.trans (hb1.mono HZ.out.2.size)
      clear hb1 hh hz E1 HCC
      go_wp2_with fail
      refine hD.mono ?_
      clear hD f4
      rintro e w2 ⟨rfl, hb3⟩
      have hb4 : Below w.heap.size w w2 := hb2.trans (hb3.mono hb2.size)
      clear hb3 hb2
      by_cases hn2 : z < 0
      · have e1 := HZN.out hn2
        subst e1
        go_wp2
        go_ret
        exact ⟨tret1 HE.out, hb4⟩
      · go_wp2
        go_ret
        exact ⟨tret1 HE.out, hb4⟩

theorem szExpr_any : ∀ d, SzEl 19 (ExR d) (WfX d) (szX d) := by
  intro d
  induction d with
  | zero => intro vs x left w h; exact h.elim
  | succ d ih => exact szExpr_of d (szExprS_of _ _ _ (ExR.lasts d) (ExR.shape d) ih) (szClauseS_of _ _ _ (ClR.lasts (ExR.lasts d)) (ClR.shape (ExR.shape d)) (szClause_of _ _ _ (ExR.lasts d) (ExR.shape d) ih))

end Go.Proofs.Ytpokheklplcamaa

/- The law's own copy and comparison of expressions: the walks. -/
namespace Go.Proofs.Ytpokheklplcamaa
open Go.RowKit
set_option linter.unusedVariables false

/-- Of all that was there only the blocks of a stretch are turned. -/
structure Kept (p q : Nat) (w w' : World) : Prop where
  os : w'.os = w.os
  tape : w'.tape = w.tape
  output : w'.output = w.output
  size : w.heap.size ≤ w'.heap.size
  block : ∀ g, g < w.heap.size → g < p ∨ q ≤ g → w'.heap[g]? = w.heap[g]?

theorem Kept.refl (p q : Nat) (w : World) : Kept p q w w := ⟨rfl, rfl, rfl, Nat.le_refl _, fun _ _ _ => rfl⟩
theorem Kept.trans {p q : Nat} {a b c : World} (h : Kept p q a b) (k : Kept p q b c) : Kept p q a c :=
  ⟨k.os.trans h.os, k.tape.trans h.tape, k.output.trans h.output, Nat.le_trans h.size k.size, fun g h1 h2 => (k.block g (Nat.lt_of_lt_of_le h1 h.size) h2).trans (h.block g h1 h2)⟩
theorem Kept.drew {p q : Nat} {a w : World} (h : Kept p q a w) : Kept p q a w.drew := h.trans ⟨rfl, rfl, rfl, Nat.le_refl _, fun _ _ _ => rfl⟩
theorem Kept.set {p q : Nat} {a w : World} {g o : Nat} {v : Value} (hg : p ≤ g ∧ g < q) (h : Kept p q a w) : Kept p q a (w.setCell ⟨g, o, none⟩ v) := by
  have b := (Below.refl g w).setCell (p := ⟨g, o, none⟩) (Nat.le_refl g) v
  exact h.trans ⟨b.os, b.tape, b.output, b.size, fun x h1 h2 => heap_setCell_other _ _ _ _ (by simp; omega)⟩
theorem Kept.of_below {p q : Nat} {a b : World} (h : Below a.heap.size a b) : Kept p q a b := ⟨h.os, h.tape, h.output, h.size, fun g hg _ => h.block g hg⟩
theorem Kept.below {p q B : Nat} {a b : World} (h : Kept p q a b) (hp : B ≤ p) (hB : B ≤ a.heap.size) : Below B a b := ⟨h.os, h.tape, h.output, h.size, fun g hg => h.block g (by omega) (.inl (by omega))⟩

theorem heap_three (w : World) (o1 o2 o3 : Obj) : (((w.alloc o1).alloc o2).alloc o3).heap[w.heap.size]? = some o1 ∧ (((w.alloc o1).alloc o2).alloc o3).heap[w.heap.size + 1]? = some o2 ∧ (((w.alloc o1).alloc o2).alloc o3).heap[w.heap.size + 1 + 1]? = some o3 := by
  have h1 := heap_alloc_new w o1
  have h2 := heap_alloc_new (w.alloc o1) o2
  have h3 := heap_alloc_new ((w.alloc o1).alloc o2) o3
  have z1 : (w.alloc o1).heap.size = w.heap.size + 1 := by simp
  have z2 : ((w.alloc o1).alloc o2).heap.size = w.heap.size + 1 + 1 := by simp
  rw [z1] at h2
  rw [z2] at h3
  refine ⟨?_, ?_, h3⟩
  · rw [Below.heap_alloc _ _ _ (by omega), Below.heap_alloc _ _ _ (by omega)]; exact h1
  · rw [Below.heap_alloc _ _ _ (by omega)]; exact h2

theorem fresh_two {B : Nat} {w1 V1 w2 Z : World} {f g : List Nat} {m : Nat} (h1 : Fresh m w1 f) (h2 : Fresh V1.heap.size w2 g) (z1 : w1.heap.size ≤ V1.heap.size) (z2 : V1.heap.size ≤ w2.heap.size) (z3 : w2.heap.size ≤ Z.heap.size) (hB : B ≤ m) (hV : B ≤ V1.heap.size) : Fresh B Z (f ++ g) := by
  refine ⟨List.nodup_append.2 ⟨h1.1, h2.1, fun a ha b hb e => by have := (h1.2 a ha).2; have := (h2.2 b hb).1; omega⟩, fun x hx => ?_⟩
  rcases List.mem_append.1 hx with hx | hx
  · have := h1.2 x hx; omega
  · have := h2.2 x hx; omega

set_option maxRecDepth 100000 in
set_option maxHeartbeats 2000000 in
theorem toClause_of {α : Type} (R : World → List Value → α → Prop) (O : World → List Value → α → List Nat → Prop) (P : α → Prop) (f : α → Nat) (hR : Lasts R) (hO : LastsO O) (hS : ∀ w vs x, R w vs x → ShExpr vs) (hSO : ∀ w vs x fp, O w vs x fp → ShExpr vs) (H : ToEl 20 R O P f) : ToEl 79 (ClR R) (ClO O) (ClP P) (ClF f) := by
  rintro vs ⟨c1, c2⟩ w ⟨p, x, rfl, h1, h2⟩ ⟨q1, q2⟩ hz
  have hz' : f c1 + f c2 ≤ 1048576 := hz
  obtain ⟨i0, i1, s2, a3, l3, c3, a4, l4, c4, rfl⟩ := hS _ _ _ h1
  obtain ⟨i5, i6, s7, a8, l8, c8, a9, l9, c9, rfl⟩ := hS _ _ _ h2
  obtain ⟨W, hW⟩ : ∃ W, W = ((w.alloc (Obj.cells #[.int .i64 i0, .int .i64 i1, .string s2, .slice a3 l3 c3, .slice a4 l4 c4, .int .i64 i5, .int .i64 i6, .string s7, .slice a8 l8 c8, .slice a9 l9 c9] 134)).alloc (.cells #[.int .i64 0, .int .i64 0, .string ⟨#[]⟩, .slice none 0 0, .slice none 0 0, .int .i64 0, .int .i64 0, .string ⟨#[]⟩, .slice none 0 0, .slice none 0 0] 33)).alloc (.cells #[.int .i64 0, .int .i64 0, .string ⟨#[]⟩, .slice none 0 0, .slice none 0 0, .int .i64 0, .int .i64 0, .string ⟨#[]⟩, .slice none 0 0, .slice none 0 0] 33) := ⟨_, rfl⟩
  obtain ⟨nA, nB, nC⟩ := heap_three w (Obj.cells #[.int .i64 i0, .int .i64 i1, .string s2, .slice a3 l3 c3, .slice a4 l4 c4, .int .i64 i5, .int .i64 i6, .string s7, .slice a8 l8 c8, .slice a9 l9 c9] 134) (.cells #[.int .i64 0, .int .i64 0, .string ⟨#[]⟩, .slice none 0 0, .slice none 0 0, .int .i64 0, .int .i64 0, .string ⟨#[]⟩, .slice none 0 0, .slice none 0 0] 33) (.cells #[.int .i64 0, .int .i64 0, .string ⟨#[]⟩, .slice none 0 0, .slice none 0 0, .int .i64 0, .int .i64 0, .string ⟨#[]⟩, .slice none 0 0, .slice none 0 0] 33)
  rw [← hW] at nA nB nC
  have hWb : Below w.heap.size w W := by rw [hW]; exact (((Below.refl _ _).alloc (Nat.le_refl _) _).alloc (by simp) _).alloc (by simp; omega) _
  have hWs : W.heap.size = w.heap.size + 1 + 1 + 1 := by rw [hW]; simp
  have hC := H _ c1 W (hR _ _ _ _ h1 hWb) q1 (by omega)
  have HR2 : Hid (∀ V : World, Below w.heap.size w V → R V _ c2) := fun V hV => hR _ _ _ _ h2 hV
  rw [hW] at hC
  have HW : Hid (W = _) := hW
  have HN : Hid (_ ∧ _ ∧ _) := ⟨nA, nB, nC⟩
  clear hW h1 h2 nA nB nC q1
  go_enter Try.func79, Try.ntmps79
  go_wp2_with fail
  refine hC.mono ?_
  clear hC
  rintro e w1 ⟨vs1, fp1, rfl, hown1, hfr1, hb1⟩
  rw [← HW.out] at hfr1 hb1
  obtain ⟨yi0, yi1, ys2, ya3, yl3, yc3, ya4, yl4, yc4, rfl⟩ := hSO _ _ _ _ hown1
  obtain ⟨nA, nB, nC⟩ := HN.out
  have nA1 := (hb1.block _ (by omega)).trans nA
  have nB1 := (hb1.block _ (by omega)).trans nB
  have nC1 := (hb1.block _ (by omega)).trans nC
  obtain ⟨V1, hV1⟩ : ∃ V, V = setL w1 (w.heap.size + 1 + 1) 0 [.int .i64 yi0, .int .i64 yi1, .string ys2, .slice ya3 yl3 yc3, .slice ya4 yl4 yc4] := ⟨_, rfl⟩
  have hzV : V1.heap.size = w1.heap.size := by rw [hV1]; exact setL_size _ _ _ _
  have hkV : ∀ j, j ≠ w.heap.size + 1 + 1 → V1.heap[j]? = w1.heap[j]? := fun j hj => by rw [hV1]; exact setL_other _ _ _ _ _ hj
  have hbV : Below (w.heap.size + 1 + 1) w1 V1 := by rw [hV1]; exact setL_below _ _ _ _ _ (Nat.le_refl _)
  have nAV := (hkV _ (by omega)).trans nA1
  have nBV := (hkV _ (by omega)).trans nB1
  have nCV : V1.heap[w.heap.size + 1 + 1]? = some (.cells #[.int .i64 yi0, .int .i64 yi1, .string ys2, .slice ya3 yl3 yc3, .slice ya4 yl4 yc4, .int .i64 0, .int .i64 0, .string ⟨#[]⟩, .slice none 0 0, .slice none 0 0] 33 (0, 0)) := by rw [hV1]; exact setL_row _ _ _ _ _ _ nC1
  have hbw1 : Below w.heap.size w w1 := hWb.trans (hb1.mono hWb.size)
  have hbwV : Below w.heap.size w V1 := hbw1.trans (hbV.mono (by omega))
  have hown1V : O V1 _ c1 fp1 := hO _ _ _ _ _ hown1 fun g hg => hkV g (by have := (hfr1.2 g hg).1; omega)
  have hz1 := hb1.size
  have hD := H _ c2 V1 (HR2.out V1 hbwV) q2 (by omega)
  rw [hV1] at hD
  have HV1 : Hid (V1 = _) := hV1
  have HO1 : Hid (O V1 _ c1 fp1) := hown1V
  have HB1 : Hid (Below w.heap.size w V1 ∧ Fresh W.heap.size w1 fp1 ∧ V1.heap.size = w1.heap.size) := ⟨hbwV, hfr1, hzV⟩
  have HNV : Hid (_ ∧ _ ∧ _) := ⟨nAV, nBV, nCV⟩
  have hcell : ∀ j u, (#[.int .i64 i0, .int .i64 i1, .string s2, .slice a3 l3 c3, .slice a4 l4 c4, .int .i64 i5, .int .i64 i6, .string s7, .slice a8 l8 c8, .slice a9 l9 c9] : Array Value)[j]? = some u → w1.cell? ⟨w.heap.size, j, none⟩ = some u := fun j u hu => by rw [cell_of_row w1 _ _ _ _ _ nA1]; exact hu
  have f5 := hcell 5 _ rfl
  have f6 := hcell 6 _ rfl
  have f7 := hcell 7 _ rfl
  have f8 := hcell 8 _ rfl
  have f9 := hcell 9 _ rfl
  have ccell : ∀ j u, (#[.int .i64 0, .int .i64 0, .string ⟨#[]⟩, .slice none 0 0, .slice none 0 0, .int .i64 0, .int .i64 0, .string ⟨#[]⟩, .slice none 0 0, .slice none 0 0] : Array Value)[j]? = some u → w1.cell? ⟨w.heap.size + 1 + 1, j, none⟩ = some u := fun j u hu => by rw [cell_of_row w1 _ _ _ _ _ nC1]; exact hu
  have g0 := ccell 0 _ rfl
  have g1 := ccell 1 _ rfl
  have g2 := ccell 2 _ rfl
  have g3 := ccell 3 _ rfl
  have g4 := ccell 4 _ rfl
  have hfz : ∀ j, w1.frozen? ⟨w.heap.size + 1 + 1, j, none⟩ = false := fun j => frozen_of_row w1 _ _ _ _ nC1
  have z0 := hfz 0
  have z1 := hfz 1
  have z2 := hfz 2
  have z3 := hfz 3
  have z4 := hfz 4
  clear hV1 nA1 nB1 nC1 nA nB nC nAV nBV nCV hbw1 hbwV hown1V hown1 hfr1 hkV hbV hcell ccell hfz HN HR2 hb1 hzV
  go_wp2_with fail
  refine hD.mono ?_
  clear hD f5 f6 f7 f8 f9 g0 g1 g2 g3 g4 z0 z1 z2 z3 z4
  rintro e w2 ⟨vs2, fp2, rfl, hown2, hfr2, hb2⟩
  have hfr2' : Fresh V1.heap.size w2 fp2 := by rw [HV1.out]; exact hfr2
  have hb2' : Below V1.heap.size V1 w2 := by rw [HV1.out]; exact hb2
  clear hfr2 hb2
  obtain ⟨xi0, xi1, xs2, xa3, xl3, xc3, xa4, xl4, xc4, rfl⟩ := hSO _ _ _ _ hown2
  obtain ⟨nAV, nBV, nCV⟩ := HNV.out
  have hzB := HB1.out.2.2
  have nB2 := (hb2'.block _ (lt_row nBV)).trans nBV
  have nC2 := (hb2'.block _ (lt_row nCV)).trans nCV
  have hz2 := hb2'.size
  have HFIN : Hid (∀ Z, Kept (w.heap.size + 1) (w.heap.size + 1 + 1 + 1) w2 Z → ClO O Z [.int .i64 yi0, .int .i64 yi1, .string ys2, .slice ya3 yl3 yc3, .slice ya4 yl4 yc4, .int .i64 xi0, .int .i64 xi1, .string xs2, .slice xa3 xl3 xc3, .slice xa4 xl4 xc4] (c1, c2) (fp1 ++ fp2) ∧ Fresh w.heap.size Z (fp1 ++ fp2) ∧ Below w.heap.size w Z) := fun Z hZ => by
    have hf1 := HB1.out.2.1
    have hzZ := hZ.size
    refine ⟨⟨[.int .i64 yi0, .int .i64 yi1, .string ys2, .slice ya3 yl3 yc3, .slice ya4 yl4 yc4], [.int .i64 xi0, .int .i64 xi1, .string xs2, .slice xa3 xl3 xc3, .slice xa4 xl4 xc4], fp1, fp2, rfl, rfl, ?_, ?_⟩, ?_, ?_⟩
    · refine hO _ _ _ _ _ HO1.out fun g hg => ?_
      have := hf1.2 g hg
      exact (hZ.block g (by omega) (.inr (by omega))).trans (hb2'.block g (by omega))
    · exact hO _ _ _ _ _ hown2 fun g hg => hZ.block g (hfr2'.2 g hg).2 (.inr (by have := (hfr2'.2 g hg).1; omega))
    · exact fresh_two hf1 hfr2' (by omega) hz2 hzZ (by omega) (by omega)
    · have hbw2 : Below w.heap.size w w2 := HB1.out.1.trans (hb2'.mono HB1.out.1.size)
      exact hbw2.trans (hZ.below (by omega) hbw2.size)
  have bcell : ∀ j u, (#[.int .i64 0, .int .i64 0, .string ⟨#[]⟩, .slice none 0 0, .slice none 0 0, .int .i64 0, .int .i64 0, .string ⟨#[]⟩, .slice none 0 0, .slice none 0 0] : Array Value)[j]? = some u → w2.cell? ⟨w.heap.size + 1, j, none⟩ = some u := fun j u hu => by rw [cell_of_row w2 _ _ _ _ _ nB2]; exact hu
  have ccell : ∀ j u, (#[.int .i64 yi0, .int .i64 yi1, .string ys2, .slice ya3 yl3 yc3, .slice ya4 yl4 yc4, .int .i64 0, .int .i64 0, .string ⟨#[]⟩, .slice none 0 0, .slice none 0 0] : Array Value)[j]? = some u → w2.cell? ⟨w.heap.size + 1 + 1, j, none⟩ = some u := fun j u hu => by rw [cell_of_row w2 _ _ _ _ _ nC2]; exact hu
  have hfB : ∀ j, w2.frozen? ⟨w.heap.size + 1, j, none⟩ = false := fun j => frozen_of_row w2 _ _ _ _ nB2
  have hfC : ∀ j, w2.frozen? ⟨w.heap.size + 1 + 1, j, none⟩ = false := fun j => frozen_of_row w2 _ _ _ _ nC2
  have b0 := bcell 0 _ rfl
  have y0 := hfB 0
  have g0 := ccell 0 _ rfl
  have z0 := hfC 0
  have b1 := bcell 1 _ rfl
  have y1 := hfB 1
  have g1 := ccell 1 _ rfl
  have z1 := hfC 1
  have b2 := bcell 2 _ rfl
  have y2 := hfB 2
  have g2 := ccell 2 _ rfl
  have z2 := hfC 2
  have b3 := bcell 3 _ rfl
  have y3 := hfB 3
  have g3 := ccell 3 _ rfl
  have z3 := hfC 3
  have b4 := bcell 4 _ rfl
  have y4 := hfB 4
  have g4 := ccell 4 _ rfl
  have z4 := hfC 4
  have b5 := bcell 5 _ rfl
  have y5 := hfB 5
  have g5 := ccell 5 _ rfl
  have z5 := hfC 5
  have b6 := bcell 6 _ rfl
  have y6 := hfB 6
  have g6 := ccell 6 _ rfl
  have z6 := hfC 6
  have b7 := bcell 7 _ rfl
  have y7 := hfB 7
  have g7 := ccell 7 _ rfl
  have z7 := hfC 7
  have b8 := bcell 8 _ rfl
  have y8 := hfB 8
  have g8 := ccell 8 _ rfl
  have z8 := hfC 8
  have b9 := bcell 9 _ rfl
  have y9 := hfB 9
  have g9 := ccell 9 _ rfl
  have z9 := hfC 9
  clear nB2 nC2 nAV nBV nCV hown2 hfr2' hb2' HO1 HB1 HNV bcell ccell hfB hfC
  go_wp2_with fail
  refine bodyPost_ret (v := .agg #[.int .i64 yi0, .int .i64 yi1, .string ys2, .slice ya3 yl3 yc3, .slice ya4 yl4 yc4, .int .i64 xi0, .int .i64 xi1, .string xs2, .slice xa3 xl3 xc3, .slice xa4 xl4 xc4]) (by first | (simp [results, Try.results79, go_sem, b0, b1, b2, b3, b4, b5, b6, b7, b8, b9]; done) | (simp [results, Try.results79, go_sem, b0, b1, b2, b3, b4, b5, b6, b7, b8, b9]; rfl)) rfl ⟨[.int .i64 yi0, .int .i64 yi1, .string ys2, .slice ya3 yl3 yc3, .slice ya4 yl4 yc4, .int .i64 xi0, .int .i64 xi1, .string xs2, .slice xa3 xl3 xc3, .slice xa4 xl4 xc4], _, rfl, HFIN.out _ ?_⟩
  repeat (first | with_reducible exact Kept.refl _ _ _ | with_reducible refine Kept.drew ?_ | (with_reducible refine Kept.set ?_ ?_; omega))

end Go.Proofs.Ytpokheklplcamaa

/- How lists of structs, and expressions, that came in are read: to whatever depth. -/
namespace Go.Proofs.Ytpokheklplcamaa
open Go.RowKit Go.ChangeShapes Go.WideShapes Go.Joins Go.Deep
set_option linter.unusedVariables false

theorem cells_at {w : World} {base n : Nat} {a : Addr} {cs : List Value} (h : w.cells? base a n = some cs) : cs.length = n ∧ ∀ (j : Nat) (u : Value), cs[j]? = some u → w.cell? (a.add j) = some u := by
  unfold World.cells? at h
  split at h
  · have hl := mapM_some_length h
    rw [List.length_range] at hl
    refine ⟨hl, fun j u hu => ?_⟩
    have hj : j < n := by have := (List.getElem?_eq_some_iff.1 hu).1; omega
    have := mapM_some_get h j j (by simp [hj])
    rw [this, hu]
  · cases h

section
variable {H : Type} {enc : TypeId × Value → H} {W : World} {base : Nat} {spare : Nat → Bool} {held : Bool}

set_option maxRecDepth 100000 in
theorem read_row {α : Type} {k : Nat} {TS TE : TypeId} {R : World → List Value → α → Prop} {P : α → Prop} (hu : Try.prog.underlying TS = some (.slice TE)) (hk : Try.prog.cellsOf TE = k) (hk0 : 0 < k) {m : Nat}
    (ih : ∀ n, n < m → ∀ cs x, DataW.trod enc Try.prog W base spare held n TE cs = some x → cs.length = k → ∃ e : α, R W cs e ∧ P e) {v : Value} {x : DataW H × List MemPlace} (h : DataW.trod enc Try.prog W base spare held m TS [v] = some x) : ∃ es : List α, RowOf k R W v es ∧ WfRow P es := by
  rcases DataW.trod_slice hu h with ⟨hv, _⟩ | ⟨a, len, cap, elems, rest, n, rfl, hv, _, _, hlc, hcm, hel, hx, _, _⟩
  · simp only [List.cons.injEq, and_true] at hv
    subst hv
    exact ⟨[], ⟨_, _, rfl, fun i t ht => by simp at ht⟩, by simp, fun t ht => by cases ht⟩
  · simp only [List.cons.injEq, and_true] at hv
    subst hv
    have one : ∀ i, i < len → ∃ e : α, ∃ b o vs, a = ⟨b, o, none⟩ ∧ vs.length = k ∧ (∀ (j : Nat) (u : Value), vs[j]? = some u → W.cell? ⟨b, o + i * k + j, none⟩ = some u) ∧ R W vs e ∧ P e := by
      intro i hi
      have h1 := hx i hi
      rw [List.getElem?_eq_getElem (by omega), hk] at h1
      obtain ⟨cs, hc, h2⟩ := Option.bind_eq_some_iff.1 h1
      obtain ⟨hl, hce⟩ := cells_at hc
      obtain ⟨e, hr, hp⟩ := ih n (by omega) cs _ h2 hl
      have hspot : a.spot = none := by
        have h3 := hx 0 (by omega)
        rw [List.getElem?_eq_getElem (by omega), hk] at h3
        obtain ⟨cs', hc', _⟩ := Option.bind_eq_some_iff.1 h3
        obtain ⟨hl', hce'⟩ := cells_at hc'
        have := World.cell?_spot (hce' 0 cs'[0] (List.getElem?_eq_getElem (by omega)))
        simpa [Addr.add] using this
      obtain ⟨b, o, sp⟩ := a
      simp only at hspot
      subst hspot
      refine ⟨e, b, o, cs, rfl, hl, fun j u hu => ?_, hr, hp⟩
      have := hce j u hu
      rw [Deep.add_add] at this
      simpa only [Addr.add_lit, ← Nat.add_assoc] using this
    by_cases h0 : len = 0
    · subst h0
      exact ⟨[], ⟨some a, cap, rfl, fun i t ht => by simp at ht⟩, by simp, fun t ht => by cases ht⟩
    · obtain ⟨e0, _⟩ := one 0 (by omega)
      haveI : Inhabited α := ⟨e0⟩
      obtain ⟨f, hf⟩ := choose_lt one
      refine ⟨(List.range len).map f, ⟨some a, cap, by simp, fun i t ht => ?_⟩, by simp; unfold maxLen at hcm; omega, fun t ht => ?_⟩
      · have hi : i < len := by have := (List.getElem?_eq_some_iff.1 ht).1; simpa using this
        obtain ⟨b, o, vs, e, h4, h5, h6, _⟩ := hf i hi
        have et : f i = t := by simpa [hi] using ht
        rw [et] at h6
        exact ⟨b, o, vs, by rw [e], h4, h5, h6⟩
      · obtain ⟨i, hi, rfl⟩ := List.mem_map.1 ht
        obtain ⟨b, o, vs, _, _, _, _, h1⟩ := hf i (List.mem_range.1 hi)
        exact h1

theorem Try.cellsExpr : Try.prog.cellsOf 38 = 5 := by kernel_rfl
theorem Try.cellsClause : Try.prog.cellsOf 134 = 10 := by kernel_rfl
theorem Try.cellsExprs : Try.prog.cellsOf 35 = 1 := by kernel_rfl
theorem Try.cellsClauses : Try.prog.cellsOf 36 = 1 := by kernel_rfl

set_option maxRecDepth 100000 in
theorem read_exprC : ∀ (m d : Nat), m ≤ d → ∀ (cs : List Value) (x : DataW H × List MemPlace), DataW.trod enc Try.prog W base spare held m 38 cs = some x → cs.length = 5 → ∃ e : Ex d, ExR d W cs e ∧ WfX d e := by
  intro m
  induction m using Nat.strongRecOn with
  | ind m ih =>
    intro d hd cs x h hl5
    obtain ⟨c0, c1, c2, c3, c4, rfl⟩ : ∃ c0 c1 c2 c3 c4, cs = [c0, c1, c2, c3, c4] := by
      match cs, hl5 with
      | [c0, c1, c2, c3, c4], _ => exact ⟨c0, c1, c2, c3, c4, rfl⟩
    obtain ⟨xs, m, rfl, _, _, hl, hf⟩ := DataW.trod_struct Try.underlying38 h
    have hl4 : xs.length = 5 := hl
    have h0 : DataW.trod enc Try.prog W base spare held m 3 [c0] = xs[0]? := by have := hf 0 _ rfl; simpa [Try.cells3] using this
    have h1 : DataW.trod enc Try.prog W base spare held m 3 [c1] = xs[1]? := by have := hf 1 _ rfl; simpa [Try.cells3] using this
    have h2 : DataW.trod enc Try.prog W base spare held m 9 [c2] = xs[2]? := by have := hf 2 _ rfl; simpa [Try.cells9] using this
    have h3 : DataW.trod enc Try.prog W base spare held m 35 [c3] = xs[3]? := by have := hf 3 _ rfl; simpa [Try.cellsExprs] using this
    have h4 : DataW.trod enc Try.prog W base spare held m 36 [c4] = xs[4]? := by have := hf 4 _ rfl; simpa [Try.cellsClauses] using this
    rw [List.getElem?_eq_getElem (by omega)] at h0 h1 h2 h3 h4
    obtain ⟨k, e0, _, wk⟩ := DataW.trod_int Try.underlying3 h0
    obtain ⟨l, e1, _, wl⟩ := DataW.trod_int Try.underlying3 h1
    obtain ⟨s, e2, _, hs⟩ := DataW.trod_string Try.underlying9 h2
    simp only [List.cons.injEq, and_true] at e0 e1 e2
    subst e0 e1 e2
    obtain ⟨d, rfl⟩ : ∃ d', d = d' + 1 := ⟨d - 1, by omega⟩
    obtain ⟨es, hE, wE⟩ := read_row (R := ExR d) (P := WfX d) Try.underlying35 Try.cellsExpr (by omega) (fun n hn cs x hx hl => ih n (by omega) d (by omega) cs x hx hl) h3
    obtain ⟨cl, hC, wC⟩ := read_row (R := ClR (ExR d)) (P := ClP (WfX d)) Try.underlying36 Try.cellsClause (by omega) (fun n hn cs x hx hl => by
      obtain ⟨ys, m', rfl, _, _, hyl, hyf⟩ := DataW.trod_struct Try.underlying134 hx
      have hy2 : ys.length = 2 := hyl
      have p0 : DataW.trod enc Try.prog W base spare held m' 38 (cs.take 5) = ys[0]? := by have := hyf 0 _ rfl; simpa [Try.cellsExpr] using this
      have p1 : DataW.trod enc Try.prog W base spare held m' 38 ((cs.drop 5).take 5) = ys[1]? := by have := hyf 1 _ rfl; simpa [Try.cellsExpr] using this
      rw [List.getElem?_eq_getElem (by omega)] at p0 p1
      obtain ⟨q1, r1, s1⟩ := ih m' (by omega) d (by omega) _ _ p0 (by simp; omega)
      obtain ⟨q2, r2, s2⟩ := ih m' (by omega) d (by omega) _ _ p1 (by simp; omega)
      refine ⟨(q1, q2), ⟨_, _, ?_, r1, r2⟩, s1, s2⟩
      rw [List.take_of_length_le (l := cs.drop 5) (by simp; omega)]
      exact (List.take_append_drop 5 cs).symm) h4
    exact ⟨(k, l, s, es, cl), ⟨c3, c4, rfl, hE, hC⟩, bounds_i64 wk, bounds_i64 wl, hs, wE, wC⟩

set_option maxRecDepth 100000 in
/-- An expression that came in by value. -/
theorem read_expr {r : Reach} {b0 : Nat} {v : Value} {x : DataW H} {p : List MemPlace} (hv : Value.okWide Try.prog W r b0 38 v) (h : DataW.Trod enc Try.prog W base spare held 38 v x p) :
    ∃ M, ∀ d, M ≤ d → ∃ (vs : List Value) (e : Ex d), v = .agg vs.toArray ∧ ExR d W vs e ∧ WfX d e := by
  obtain ⟨cs, rfl, hsz⟩ := okWide_struct Try.underlying38 hv
  obtain ⟨fuel, hf⟩ := h
  have hf' : DataW.trod enc Try.prog W base spare held fuel 38 cs.toList = some (x, p) := hf
  refine ⟨fuel, fun d hd => ?_⟩
  obtain ⟨e, h1, h2⟩ := read_exprC fuel d hd cs.toList _ hf' (by have := hsz.trans Try.cellsExpr; simpa using this)
  exact ⟨cs.toList, e, by simp, h1, h2⟩
end
end Go.Proofs.Ytpokheklplcamaa
