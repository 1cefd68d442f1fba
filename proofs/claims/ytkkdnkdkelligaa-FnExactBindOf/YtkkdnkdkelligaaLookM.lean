/- When a term is right in all its storeys, and that the model's walk over it tells it. -/
import Derived.Test.YtkkdnkdkelligaaTmM
import Derived.BigQuiet
import Derived.Deep.DeepCutAuto
import Derived.Deep.CutRange
namespace Go.Proofs.Ytkkdnkdkelligaa
open Go.RowKit
set_option linter.unusedVariables false

/-- All terms of a list have their shapes, all storeys. -/
def OkL : (d : Nat) → List (Tm d) → Prop
  | 0, _ => True
  | d + 1, ts => ∀ t ∈ ts, Shape t.K t.N t.S t.L.length ∧ OkL d t.L

/-- A term that is right, no deeper than told, of no more than are left. -/
def Right (d : Nat) (k n : Int) (s : ByteArray) (ts : List (Tm d)) (deep left : Int) : Prop :=
  Shape k n s ts.length ∧ OkL d ts ∧ ((1 + depL d ts : Nat) : Int) ≤ deep ∧ ((1 + cntL d ts : Nat) : Int) ≤ left

theorem depL_le {d : Nat} {ts : List (Tm (d + 1))} {m : Nat} : depL (d + 1) ts ≤ m ↔ ∀ t ∈ ts, 1 + depL d t.L ≤ m := by
  constructor
  · intro h t ht
    have := (foldl_max_ge (ts.map fun t => 1 + depL d t.L) 0).2 _ (List.mem_map.2 ⟨t, ht, rfl⟩)
    exact Nat.le_trans this h
  · intro h
    refine foldl_max_le _ 0 m (Nat.zero_le _) fun x hx => ?_
    obtain ⟨t, ht, rfl⟩ := List.mem_map.1 hx
    exact h t ht

/-- The contract of a walk that tells how many may be left. -/
def LookC (f d : Nat) : Prop := ∀ (k n : Int) (s : ByteArray) (l : Value) (ts : List (Tm d)) (deep left : Int) (w : World), RdL d w l ts → WfL d ts → s.size ≤ 9223372036854775807 → -1000 ≤ deep → deep ≤ 1000 → -1000 ≤ left → left ≤ 1000000 →
  Calls Try.prog f #[.agg #[.int .i64 k, .int .i64 n, .string s, l], .int .i64 deep, .int .i64 left] w fun e w' => ∃ r : Int, e = .returned (.int .i64 r) ∧ ((Right d k n s ts deep left ∧ r = left - (1 + cntL d ts : Nat)) ∨ (¬ Right d k n s ts deep left ∧ r = -1)) ∧ Below w.heap.size w w'

theorem right_zero {k n : Int} {s : ByteArray} {ts : List (Tm 0)} {deep left : Int} (h1 : ¬ deep < 1) (h2 : ¬ left < 1) (h3 : Shape k n s ts.length) : Right 0 k n s ts deep left :=
  ⟨h3, trivial, by show ((1 + 0 : Nat) : Int) ≤ deep; omega, by show ((1 + 0 : Nat) : Int) ≤ left; omega⟩

/-- The first j terms of a list are right. -/
def RightP (d : Nat) (ts : List (Tm (d + 1))) (deep left : Int) (j : Nat) : Prop :=
  (∀ i t, i < j → ts[i]? = some t → Shape t.K t.N t.S t.L.length ∧ OkL d t.L ∧ ((1 + depL d t.L : Nat) : Int) ≤ deep - 1) ∧ ((1 + cntP d ts j : Nat) : Int) ≤ left

theorem rightP_all {d : Nat} {k n : Int} {s : ByteArray} {ts : List (Tm (d + 1))} {deep left : Int} {j : Nat} (hd : ¬ deep < 1) (h3 : Shape k n s ts.length) (hj : ts.length ≤ j) (h : RightP d ts deep left j) : Right (d + 1) k n s ts deep left := by
  refine ⟨h3, fun t ht => ?_, ?_, by have := h.2; rw [cntP_all d ts j hj] at this; exact this⟩
  · obtain ⟨i, hi, e⟩ := List.getElem_of_mem ht
    have := h.1 i t (by omega) (by rw [List.getElem?_eq_getElem hi, e])
    exact ⟨this.1, this.2.1⟩
  · have : depL (d + 1) ts ≤ (deep - 1).toNat := depL_le.2 fun t ht => by
      obtain ⟨i, hi, e⟩ := List.getElem_of_mem ht
      have := (h.1 i t (by omega) (by rw [List.getElem?_eq_getElem hi, e])).2.2
      omega
    omega

theorem right_elem {d : Nat} {k n : Int} {s : ByteArray} {ts : List (Tm (d + 1))} {deep left : Int} {j : Nat} {t : Tm (d + 1)} (ht : ts[j]? = some t) (h : Right (d + 1) k n s ts deep left) : Right d t.K t.N t.S t.L (deep - 1) (left - 1 - cntP d ts j) := by
  have hm := List.mem_of_getElem? ht
  obtain ⟨_, h2, h3, h4⟩ := h
  have h5 := h2 t hm
  have h6 : 1 + depL d t.L ≤ depL (d + 1) ts := (depL_le (m := depL (d + 1) ts)).1 (Nat.le_refl _) t hm
  have h7 := cntP_succ d ts j t ht
  have h8 := cntP_le d ts (j + 1)
  exact ⟨h5.1, h5.2, by omega, by omega⟩

theorem rightP_step {d : Nat} {ts : List (Tm (d + 1))} {deep left : Int} {j : Nat} {t : Tm (d + 1)} (ht : ts[j]? = some t) (h : RightP d ts deep left j) (hr : Right d t.K t.N t.S t.L (deep - 1) (left - 1 - cntP d ts j)) : RightP d ts deep left (j + 1) := by
  have h7 := cntP_succ d ts j t ht
  obtain ⟨r1, r2, r3, r4⟩ := hr
  refine ⟨fun i u hi hu => ?_, by omega⟩
  by_cases hij : i < j
  · exact h.1 i u hij hu
  · obtain rfl : i = j := by omega
    rw [ht] at hu
    obtain rfl := Option.some.inj hu
    exact ⟨r1, r2, r3⟩

end Go.Proofs.Ytkkdnkdkelligaa

/- A region that draws its order, whose operations only read and whose callees leave what was there: one walk. -/
namespace Go.Proofs.Ytkkdnkdkelligaa
open Go.RowKit

/-- A world behind this one. -/
structure After (w : World) where
  now : World
  bel : Below w.heap.size w now

theorem After.some (w : World) : Nonempty (After w) := ⟨⟨w, Below.refl _ _⟩⟩

theorem wp_region_after {P : Program} {id : Nat} {Q : Exit → Act → World → Prop} {a : Act} {w : World} {l : List Oper} (hm : P.follows .mixedOrders = true) (hB : Region.lexB .any l.toArray = true)
    (h : wpQuiet P l.toArray (fun w' => ∃ n : After w, w' = n.now) (fun a' => ∀ w', (∃ n : After w, w' = n.now) → Q .normal a' w') l a) : (Code.region id l.toArray true).wp P Q a w :=
  wp_region_quiet (C := fun w' => ∃ n : After w, w' = n.now) hm hB ⟨⟨_, (Below.refl _ _).drew⟩, rfl⟩ (by simpa using h)

theorem calls_after {P : Program} {f : FuncId} {args : Array Value} {w : World} {n : After w} {v : Value}
    (h : Calls P f args n.now fun e w' => e = .returned v ∧ Below n.now.heap.size n.now w') : Calls P f args n.now fun e w'' => e = .returned v ∧ ∃ m : After w, w'' = m.now :=
  h.mono fun _ w' ⟨he, hb⟩ => ⟨he, ⟨w', n.bel.trans (hb.mono n.bel.size)⟩, rfl⟩

theorem After.cell {w : World} {a : Addr} {v : Value} (h : w.cell? a = .some v) (n : After w) : n.now.cell? a = .some v := cell_later n.bel h

end Go.Proofs.Ytkkdnkdkelligaa

/- The law's own measure, copy and comparison of lists of structs. -/
namespace Go.Proofs.Ytkkdnkdkelligaa
open Go.RowKit
set_option linter.unusedVariables false

/-- The cells of Bind. -/
def ShBind (vs : List Value) : Prop := ∃ (s0 : ByteArray) (i1 : Int) (i2 : Int) (s3 : ByteArray) (a4 : Option Addr) (l4 c4 : Nat), vs = [.string s0, .int .i64 i1, .int .i64 i2, .string s3, .slice a4 l4 c4]

set_option maxHeartbeats 1000000 in
theorem szBindS_of {α : Type} (R : World → List Value → α → Prop) (P : α → Prop) (f : α → Nat) (hR : Lasts R) (hS : ∀ w vs x, R w vs x → ShBind vs) (H : SzEl 26 R P f) : SzLs 11 5 R P f := by
  intro v xs left w hr hw h0 h1
  obtain ⟨a, c, rfl, hel⟩ := hr
  have HE : Hid (∀ (i : Nat) (x : α), xs[i]? = some x → ∃ b o vs, a = some ⟨b, o, none⟩ ∧ vs.length = 5 ∧ (∀ (j : Nat) (u : Value), vs[j]? = some u → w.cell? ⟨b, o + i * 5 + j, none⟩ = some u) ∧ R w vs x) := hel
  have HW : Hid (WfRow P xs) := hw
  have hm : xs.length ≤ 9223372036854775807 := hw.1
  clear hel hw
  obtain ⟨len, hlen⟩ : ∃ len, xs.length = len := ⟨_, rfl⟩
  have HLN : Hid (xs.length = len) := hlen
  rw [hlen] at hm ⊢
  clear hlen
  by_cases hlt : left < len
  · have HF : Hid ((-1 : Int) = lft left (szRow f xs)) := by show _ = _; have := sumP_all f xs; rw [HLN.out] at this; unfold lft; rw [if_neg (by omega)]
    go_enter Try.func11, Try.ntmps11
    go_wp2
    go_ret
    exact ⟨tret1 HF.out, Below.refl _ _⟩
  · go_enter Try.func11, Try.ntmps11
    go_wp2_with fail
    go_loopw [1, 5] (fun x i wr => ∃ k : Nat, k ≤ len ∧ i = .int .i64 k ∧ x = .int .i64 (left - len - sumP f xs k) ∧ 0 ≤ left - (len : Int) - sumP f xs k ∧ Below w.heap.size w wr) (fun _ i _ => len - (intOf i).toNat)
    case atStart => exact ⟨0, Nat.zero_le _, rfl, by simp [sumP], by simp [sumP]; omega, Below.refl _ _⟩
    case round =>
      obtain ⟨k, hk, rfl, rfl, hx0, hb⟩ := hrel
      obtain ⟨x, hx⟩ : ∃ x, left - (len : Int) - sumP f xs k = x := ⟨_, rfl⟩
      have HX : Hid (left - (len : Int) - sumP f xs k = x) := hx
      rw [hx] at hx0 ⊢
      have hx1 : x ≤ 1048576 := by omega
      clear hx
      by_cases hkl : k < len
      · obtain ⟨t, ht⟩ : ∃ t, xs[k]? = some t := ⟨_, List.getElem?_eq_getElem (by rw [HLN.out]; exact hkl)⟩
        obtain ⟨b, o, vs, rfl, hvl, hcell, hrt⟩ := HE.out k t ht
        obtain ⟨s0, i1, i2, s3, a4, l4, c4, rfl⟩ := hS _ _ _ hrt
        have hpt := HW.out.2 t (List.mem_of_getElem? ht)
        have f0 : wr.cell? ⟨b, o + k * 5, none⟩ = some _ := cell_later hb (hcell 0 _ rfl)
        have f1 : wr.cell? ⟨b, o + k * 5 + 1, none⟩ = some _ := cell_later hb (hcell 1 _ rfl)
        have f2 : wr.cell? ⟨b, o + k * 5 + 2, none⟩ = some _ := cell_later hb (hcell 2 _ rfl)
        have f3 : wr.cell? ⟨b, o + k * 5 + 3, none⟩ = some _ := cell_later hb (hcell 3 _ rfl)
        have f4 : wr.cell? ⟨b, o + k * 5 + 4, none⟩ = some _ := cell_later hb (hcell 4 _ rfl)
        have hC := H _ t x wr (hR _ _ _ _ hrt hb) hpt hx0 hx1
        have hstep := sumP_succ f xs k t ht
        obtain ⟨y, hy⟩ : ∃ y, lft x (f t) = y := ⟨_, rfl⟩
        rw [hy] at hC
        clear hcell hrt hpt hvl
        by_cases hneg : y < 0
        · have HF : Hid ((-1 : Int) = lft left (szRow f xs)) := by
            have h1 := sumP_all f xs
            have h2 := sumP_le f xs (k + 1)
            have h3 := HX.out
            have h5 := HLN.out
            have h6 : szRow f xs = xs.length + (xs.map f).sum := rfl
            unfold lft at hy
            show _ = _
            by_cases h4 : ((f t : Nat) : Int) ≤ x
            · rw [if_pos h4] at hy; omega
            · unfold lft; rw [if_neg (by omega)]
          clear hy hstep HX
          go_wp2_with fail
          refine hC.mono ?_
          clear hC
          rintro e w1 ⟨rfl, hb1⟩
          have hb2 : Below w.heap.size w w1 := hb.trans (hb1.mono hb.size)
          clear hb1 hb f0 f1 f2 f3 f4
          go_wp2
          go_ret
          exact ⟨tret1 HF.out, hb2⟩
        · have HY : Hid (y = left - (len : Int) - sumP f xs (k + 1) ∧ 0 ≤ left - (len : Int) - sumP f xs (k + 1)) := by
            have h3 := HX.out
            unfold lft at hy
            by_cases h4 : ((f t : Nat) : Int) ≤ x
            · rw [if_pos h4] at hy; show _ ∧ _; omega
            · rw [if_neg h4] at hy; omega
          clear hy hstep HX
          go_wp2_with fail
          refine hC.mono ?_
          clear hC
          rintro e w1 ⟨rfl, hb1⟩
          have hb2 : Below w.heap.size w w1 := hb.trans (hb1.mono hb.size)
          clear hb1 hb f0 f1 f2 f3 f4
          go_wp2
          go_roundw
          case rel => exact ⟨k + 1, by omega, by go_num, by rw [HY.out.1], HY.out.2, hb2⟩
          case measure => simp [intOf]; omega
      · have HF : Hid (x = lft left (szRow f xs)) := by
          have h1 := sumP_all f xs
          have h3 := HX.out
          have h5 := HLN.out
          have hk' : k = xs.length := by omega
          rw [hk'] at h3
          unfold lft; rw [if_pos (by omega)]; show _ = _; omega
        clear HX
        go_wp2
        go_ret
        exact ⟨tret1 HF.out, hb⟩

theorem Try.infoBind : (Try.prog.info? 54).map (fun i => (i.zero, i.size, i.bytes)) = some (some (.agg #[.string ⟨#[]⟩, .int .i64 0, .int .i64 0, .string ⟨#[]⟩, .slice none 0 0]), 5, 72) := by kernel_rfl

set_option maxHeartbeats 2000000 in
theorem toBindS_of {α : Type} (R : World → List Value → α → Prop) (O : World → List Value → α → List Nat → Prop) (P : α → Prop) (f : α → Nat) (hR : Lasts R) (hO : LastsO O) (hS : ∀ w vs x, R w vs x → ShBind vs) (hSO : ∀ w vs x fp, O w vs x fp → ShBind vs) (H : ToEl 28 R O P f) : ToLs 13 5 54 R O P f := by
  obtain ⟨i0, hi, hz0, hz1, hz2⟩ := info_parts Try.infoBind
  intro v xs w hr hw hz
  obtain ⟨a, c, rfl, hel⟩ := hr
  have HE : Hid (∀ (i : Nat) (x : α), xs[i]? = some x → ∃ b o vs, a = some ⟨b, o, none⟩ ∧ vs.length = 5 ∧ (∀ (j : Nat) (u : Value), vs[j]? = some u → w.cell? ⟨b, o + i * 5 + j, none⟩ = some u) ∧ R w vs x) := hel
  have HW : Hid (WfRow P xs) := hw
  obtain ⟨len, hlen⟩ : ∃ len, xs.length = len := ⟨_, rfl⟩
  have HLN : Hid (xs.length = len) := hlen
  have hm : len ≤ 1048576 := by have := sumP_all f xs; omega
  have HZ : Hid (szRow f xs ≤ 1048576) := hz
  rw [hlen]
  clear hlen hel hw hz
  go_enter Try.func13, Try.ntmps13
  go_wp2_with (at_make; refine wpList_make_full _ rfl _ _ 35 rfl w.heap.size 54 i0 _ 5 Try.underlying35 hi hz0 hz1 _ _ _ _ len rfl rfl rfl rfl (by rw [hz2]; omega) (by unfold maxLen; omega) (Nat.le_refl _) ?_)
  intro w1 hown hgrow
  have hbel : Below w.heap.size w w1 := (Below.refl _ _).grown hgrow (Nat.le_refl _) (fun _ h => by cases h)
  obtain ⟨cur0, hc0, hs0⟩ : ∃ cur, w1.heap[w.heap.size]? = some (.cells cur 54 (0, 0)) ∧ cur.size = len * 5 := by
    rcases hown.2 with ⟨h', _⟩ | ⟨g', cap', cur, h', _, hg, _, _, hs, _⟩
    · simp at h'
    · simp only [Value.slice.injEq, Option.some.injEq, Addr.mk.injEq, and_true, true_and] at h'
      obtain ⟨rfl, rfl⟩ := h'
      exact ⟨cur, hg, hs⟩
  clear hown hgrow
  go_wp2
  go_loopw [4] (fun i wr => ∃ (k : Nat) (cur : Array Value) (fps : List (List Nat)), k ≤ len ∧ i = .int .i64 k ∧ wr.heap[w.heap.size]? = some (.cells cur 54 (0, 0)) ∧ cur.size = len * 5 ∧ fps.length = k ∧ fps.flatten.Nodup ∧ (∀ g ∈ fps.flatten, w.heap.size < g ∧ g < wr.heap.size) ∧ Below w.heap.size w wr ∧ Hid (DoneRow 5 O xs k wr cur fps)) (fun i _ => len - (intOf i).toNat)
  case atStart => exact ⟨0, cur0, [], Nat.zero_le _, rfl, hc0, hs0, rfl, by simp, by simp, hbel, fun i t hi => by omega⟩
  case round =>
    obtain ⟨k, cur, fps, hk, rfl, hh, hcs, hfl, hnd, hfr, hb, HD⟩ := hrel
    have HH : Hid (wr.heap[w.heap.size]? = some (.cells cur 54 (0, 0))) := hh
    have HFL : Hid (fps.length = k) := hfl
    have HCS : Hid (cur.size = len * 5) := hcs
    have HND : Hid (fps.flatten.Nodup ∧ (∀ g ∈ fps.flatten, w.heap.size < g ∧ g < wr.heap.size) ∧ Below w.heap.size w wr) := ⟨hnd, hfr, hb⟩
    have hwz : w.heap.size < wr.heap.size := Nat.lt_of_not_le fun hn => by simp [Array.getElem?_eq_none hn] at hh
    clear hc0 hs0 hbel hh hfl hcs hnd hfr
    by_cases hkl : k < len
    · obtain ⟨t, ht⟩ : ∃ t, xs[k]? = some t := ⟨_, List.getElem?_eq_getElem (by rw [HLN.out]; exact hkl)⟩
      obtain ⟨b, o, vs, rfl, hvl, hcell, hrt⟩ := HE.out k t ht
      obtain ⟨s0, i1, i2, s3, a4, l4, c4, rfl⟩ := hS _ _ _ hrt
      have hpt := HW.out.2 t (List.mem_of_getElem? ht)
      have f0 : wr.cell? ⟨b, o + k * 5, none⟩ = some _ := cell_later hb (hcell 0 _ rfl)
      have f1 : wr.cell? ⟨b, o + k * 5 + 1, none⟩ = some _ := cell_later hb (hcell 1 _ rfl)
      have f2 : wr.cell? ⟨b, o + k * 5 + 2, none⟩ = some _ := cell_later hb (hcell 2 _ rfl)
      have f3 : wr.cell? ⟨b, o + k * 5 + 3, none⟩ = some _ := cell_later hb (hcell 3 _ rfl)
      have f4 : wr.cell? ⟨b, o + k * 5 + 4, none⟩ = some _ := cell_later hb (hcell 4 _ rfl)
      have hzt : f t ≤ 1048576 := Nat.le_trans (szRow_mem ht) HZ.out
      have hC := H _ t wr (hR _ _ _ _ hrt hb) hpt hzt
      have HTT : Hid (xs[k]? = some t) := ht
      clear hcell hrt hpt hvl hb ht
      go_wp2_with fail
      refine hC.mono ?_
      clear hC
      rintro e w2 ⟨vs2, fp, rfl, hown, hfr2, hb2⟩
      have hh2 : w2.heap[w.heap.size]? = some (.cells cur 54 (0, 0)) := (hb2.block _ hwz).trans HH.out
      have hc4 : ∀ j, j < 5 → ∃ v, w2.cell? ⟨w.heap.size, k * 5 + j, none⟩ = some v := fun j hj => by
        rw [cell_of_row w2 _ _ _ _ _ hh2]
        exact ⟨_, Array.getElem?_eq_getElem (by have := HCS.out; omega)⟩
      obtain ⟨v0, c0'⟩ := hc4 0 (by omega)
      obtain ⟨v1, c1'⟩ := hc4 1 (by omega)
      obtain ⟨v2, c2'⟩ := hc4 2 (by omega)
      obtain ⟨v3, c3'⟩ := hc4 3 (by omega)
      obtain ⟨v4, c4'⟩ := hc4 4 (by omega)
      rw [Nat.add_zero] at c0'
      have z0 : w2.frozen? ⟨w.heap.size, k * 5, none⟩ = false := frozen_of_row w2 _ _ _ _ hh2
      have z1 : w2.frozen? ⟨w.heap.size, k * 5 + 1, none⟩ = false := frozen_of_row w2 _ _ _ _ hh2
      have z2 : w2.frozen? ⟨w.heap.size, k * 5 + 2, none⟩ = false := frozen_of_row w2 _ _ _ _ hh2
      have z3 : w2.frozen? ⟨w.heap.size, k * 5 + 3, none⟩ = false := frozen_of_row w2 _ _ _ _ hh2
      have z4 : w2.frozen? ⟨w.heap.size, k * 5 + 4, none⟩ = false := frozen_of_row w2 _ _ _ _ hh2
      obtain ⟨ys0, yi1, yi2, ys3, ya4, yl4, yc4, rfl⟩ := hSO _ _ _ _ hown
      obtain ⟨S1, S2, S3, S4, S5, S6, S7⟩ := row_step hO hkl HCS.out HFL.out HND.out.1 HND.out.2.1 hwz HND.out.2.2 hb2 HD.out HTT.out rfl hown hfr2 hh2
      have HS : Hid ((_ ∧ _ ∧ _ ∧ _ ∧ _ ∧ _) ∧ _) := ⟨⟨S1, S2, S3, S4, S5, S6⟩, S7⟩
      clear S1 S2 S3 S4 S5 S6 S7 hc4 hh2 f0 f1 f2 f3 f4 hown hfr2 hb2
      go_wp2
      go_roundw
      case rel => exact ⟨k + 1, _, _, by omega, by go_num, HS.out.1.1, HS.out.1.2.1, HS.out.1.2.2.1, HS.out.1.2.2.2.1, HS.out.1.2.2.2.2.1, HS.out.1.2.2.2.2.2, HS.out.2⟩
      case measure => simp [intOf]; omega
    · obtain rfl : k = len := by omega
      have HO := row_done (T := 54) (w := w) HLN.out HFL.out HND.out.1 HND.out.2.1 hwz HH.out HD.out
      have HFF : Hid _ := HO
      clear HO
      go_wp2
      go_ret
      exact ⟨_, _, _, _, rfl, HFF.out.1, HFF.out.2, hb⟩

set_option maxHeartbeats 1000000 in
theorem eqBindS_of {α : Type} (R : World → List Value → α → Prop) (P : α → Prop) (hR : Lasts R) (hS : ∀ w vs x, R w vs x → ShBind vs) (H : EqEl 32 R P) : EqLs 16 5 R P := by
  intro v1 v2 xs w h1 h2 hw
  obtain ⟨a1, c1, rfl, e1⟩ := h1
  obtain ⟨a2, c2, rfl, e2⟩ := h2
  have HE1 : Hid (∀ (i : Nat) (x : α), xs[i]? = some x → ∃ b o vs, a1 = some ⟨b, o, none⟩ ∧ vs.length = 5 ∧ (∀ (j : Nat) (u : Value), vs[j]? = some u → w.cell? ⟨b, o + i * 5 + j, none⟩ = some u) ∧ R w vs x) := e1
  have HE2 : Hid (∀ (i : Nat) (x : α), xs[i]? = some x → ∃ b o vs, a2 = some ⟨b, o, none⟩ ∧ vs.length = 5 ∧ (∀ (j : Nat) (u : Value), vs[j]? = some u → w.cell? ⟨b, o + i * 5 + j, none⟩ = some u) ∧ R w vs x) := e2
  have HW : Hid (WfRow P xs) := hw
  have hm : xs.length ≤ 9223372036854775807 := hw.1
  obtain ⟨len, hlen⟩ : ∃ len, xs.length = len := ⟨_, rfl⟩
  have HLN : Hid (xs.length = len) := hlen
  rw [hlen] at hm ⊢
  clear hlen e1 e2 hw
  go_enter Try.func16, Try.ntmps16
  go_wp2_with fail
  go_loopw [5] (fun i wr => ∃ k : Nat, k ≤ len ∧ i = .int .i64 k ∧ Below w.heap.size w wr) (fun i _ => len - (intOf i).toNat)
  case atStart => exact ⟨0, Nat.zero_le _, rfl, Below.refl _ _⟩
  case round =>
    obtain ⟨k, hk, rfl, hb⟩ := hrel
    by_cases hkl : k < len
    · obtain ⟨t, ht⟩ : ∃ t, xs[k]? = some t := ⟨_, List.getElem?_eq_getElem (by rw [HLN.out]; exact hkl)⟩
      obtain ⟨b, o, vs, rfl, hvl, hcell, hr1⟩ := HE1.out k t ht
      obtain ⟨b2, o2, vs2, rfl, hvl2, hcell2, hr2⟩ := HE2.out k t ht
      obtain ⟨s0, i1, i2, s3, a4, l4, c4, rfl⟩ := hS _ _ _ hr1
      obtain ⟨ys0, yi1, yi2, ys3, ya4, yl4, yc4, rfl⟩ := hS _ _ _ hr2
      have hpt := HW.out.2 t (List.mem_of_getElem? ht)
      have f0 : wr.cell? ⟨b, o + k * 5, none⟩ = some _ := cell_later hb (hcell 0 _ rfl)
      have f1 : wr.cell? ⟨b, o + k * 5 + 1, none⟩ = some _ := cell_later hb (hcell 1 _ rfl)
      have f2 : wr.cell? ⟨b, o + k * 5 + 2, none⟩ = some _ := cell_later hb (hcell 2 _ rfl)
      have f3 : wr.cell? ⟨b, o + k * 5 + 3, none⟩ = some _ := cell_later hb (hcell 3 _ rfl)
      have f4 : wr.cell? ⟨b, o + k * 5 + 4, none⟩ = some _ := cell_later hb (hcell 4 _ rfl)
      have g0 : wr.cell? ⟨b2, o2 + k * 5, none⟩ = some _ := cell_later hb (hcell2 0 _ rfl)
      have g1 : wr.cell? ⟨b2, o2 + k * 5 + 1, none⟩ = some _ := cell_later hb (hcell2 1 _ rfl)
      have g2 : wr.cell? ⟨b2, o2 + k * 5 + 2, none⟩ = some _ := cell_later hb (hcell2 2 _ rfl)
      have g3 : wr.cell? ⟨b2, o2 + k * 5 + 3, none⟩ = some _ := cell_later hb (hcell2 3 _ rfl)
      have g4 : wr.cell? ⟨b2, o2 + k * 5 + 4, none⟩ = some _ := cell_later hb (hcell2 4 _ rfl)
      have hkl' : (k : Int) < (len : Int) := by omega
      have HC : Hid (∀ W : World, Below wr.heap.size wr W → _) := fun W hW => H _ _ t W (hR _ _ _ _ (hR _ _ _ _ hr1 hb) hW) (hR _ _ _ _ (hR _ _ _ _ hr2 hb) hW) hpt
      clear hcell hcell2 hr1 hr2 hpt hvl hvl2
      have hn0 := After.some wr
      have p0 := After.cell f0
      have p1 := After.cell f1
      have p2 := After.cell f2
      have p3 := After.cell f3
      have p4 := After.cell f4
      have q0 := After.cell g0
      have q1 := After.cell g1
      have q2 := After.cell g2
      have q3 := After.cell g3
      have q4 := After.cell g4
      go_wp2_with fail
      refine wp_region_after (by kernel_rfl) (by kernel_rfl) ?_
      repeat (go_big_quiet_step ((go_at_call 32; exact calls_after (HC.out _ (After.bel _)))))
      refine wpQuiet_nil ?_
      rintro _ ⟨nq, rfl⟩
      have hb2 : Below w.heap.size w nq.now := hb.trans (nq.bel.mono hb.size)
      clear hb f0 f1 f2 f3 f4 g0 g1 g2 g3 g4 p0 q0 p1 q1 p2 q2 p3 q3 p4 q4
      go_wp2
      go_roundw
      case rel => exact ⟨k + 1, by omega, by go_num, hb2⟩
      case measure => simp [intOf]; omega
    · go_wp2
      go_ret
      exact ⟨rfl, hb⟩

end Go.Proofs.Ytkkdnkdkelligaa

/- The law's own measure, copy and comparison of lists of structs. -/
namespace Go.Proofs.Ytkkdnkdkelligaa
open Go.RowKit
set_option linter.unusedVariables false

/-- The cells of Expr. -/
def ShExpr (vs : List Value) : Prop := ∃ (i0 : Int) (i1 : Int) (s2 : ByteArray) (a3 : Option Addr) (l3 c3 : Nat) (a4 : Option Addr) (l4 c4 : Nat), vs = [.int .i64 i0, .int .i64 i1, .string s2, .slice a3 l3 c3, .slice a4 l4 c4]

end Go.Proofs.Ytkkdnkdkelligaa

/- The law's own measure, copy and comparison of lists of structs. -/
namespace Go.Proofs.Ytkkdnkdkelligaa
open Go.RowKit
set_option linter.unusedVariables false

/-- The cells of Clause. -/
def ShClause (vs : List Value) : Prop := ∃ (i0 : Int) (i1 : Int) (s2 : ByteArray) (a3 : Option Addr) (l3 c3 : Nat) (a4 : Option Addr) (l4 c4 : Nat) (i5 : Int) (i6 : Int) (s7 : ByteArray) (a8 : Option Addr) (l8 c8 : Nat) (a9 : Option Addr) (l9 c9 : Nat), vs = [.int .i64 i0, .int .i64 i1, .string s2, .slice a3 l3 c3, .slice a4 l4 c4, .int .i64 i5, .int .i64 i6, .string s7, .slice a8 l8 c8, .slice a9 l9 c9]

end Go.Proofs.Ytkkdnkdkelligaa

/- Expressions as data, to whatever depth; the law's own measure, copy and comparison of them. -/
namespace Go.Proofs.Ytkkdnkdkelligaa
open Go.RowKit
set_option linter.unusedVariables false

/-- An expression of at most d storeys. -/
def Ex : Nat → Type
  | 0 => Empty
  | d + 1 => Int × Int × ByteArray × List (Ex d) × List (Ex d × Ex d)

def Ex.K {d : Nat} (e : Ex (d + 1)) : Int := e.1
def Ex.N {d : Nat} (e : Ex (d + 1)) : Int := e.2.1
def Ex.S {d : Nat} (e : Ex (d + 1)) : ByteArray := e.2.2.1
def Ex.E {d : Nat} (e : Ex (d + 1)) : List (Ex d) := e.2.2.2.1
def Ex.C {d : Nat} (e : Ex (d + 1)) : List (Ex d × Ex d) := e.2.2.2.2
def mkX {d : Nat} (k n : Int) (s : ByteArray) (es : List (Ex d)) (cs : List (Ex d × Ex d)) : Ex (d + 1) := (k, n, s, es, cs)

/-- Two by two. -/
def ClR {α : Type} (R : World → List Value → α → Prop) (w : World) (vs : List Value) (c : α × α) : Prop := ∃ p x, vs = p ++ x ∧ R w p c.1 ∧ R w x c.2
def ClO {α : Type} (O : World → List Value → α → List Nat → Prop) (w : World) (vs : List Value) (c : α × α) (fp : List Nat) : Prop := ∃ p x f g, vs = p ++ x ∧ fp = f ++ g ∧ O w p c.1 f ∧ O w x c.2 g
def ClP {α : Type} (P : α → Prop) (c : α × α) : Prop := P c.1 ∧ P c.2
def ClF {α : Type} (f : α → Nat) (c : α × α) : Nat := f c.1 + f c.2

/-- Five cells that tell an expression. -/
def ExR : (d : Nat) → World → List Value → Ex d → Prop
  | 0, _, _, _ => False
  | d + 1, w, vs, e => ∃ ve vc, vs = [.int .i64 e.K, .int .i64 e.N, .string e.S, ve, vc] ∧ RowOf 5 (ExR d) w ve e.E ∧ RowOf 10 (ClR (ExR d)) w vc e.C

/-- What every expression in memory is within. -/
def WfX : (d : Nat) → Ex d → Prop
  | 0, _ => False
  | d + 1, e => I64 e.K ∧ I64 e.N ∧ e.S.size ≤ maxLen ∧ WfRow (WfX d) e.E ∧ WfRow (ClP (WfX d)) e.C

/-- How great an expression is. -/
def szX : (d : Nat) → Ex d → Nat
  | 0, _ => 0
  | d + 1, e => e.S.size + szRow (szX d) e.E + szRow (ClF (szX d)) e.C

theorem ClR.lasts {α : Type} {R : World → List Value → α → Prop} (h : Lasts R) : Lasts (ClR R) := by
  rintro w w' vs c ⟨p, x, rfl, h1, h2⟩ hb
  exact ⟨p, x, rfl, h _ _ _ _ h1 hb, h _ _ _ _ h2 hb⟩
theorem ClO.lasts {α : Type} {O : World → List Value → α → List Nat → Prop} (h : LastsO O) : LastsO (ClO O) := by
  rintro w w' vs c fp ⟨p, x, f, g, rfl, rfl, h1, h2⟩ hb
  exact ⟨p, x, f, g, rfl, rfl, h _ _ _ _ _ h1 fun j hj => hb j (List.mem_append_left _ hj), h _ _ _ _ _ h2 fun j hj => hb j (List.mem_append_right _ hj)⟩
theorem ClO.reads {α : Type} {O : World → List Value → α → List Nat → Prop} {R : World → List Value → α → Prop} (h : Reads O R) : Reads (ClO O) (ClR R) := by
  rintro w vs c fp ⟨p, x, f, g, rfl, rfl, h1, h2⟩
  exact ⟨p, x, rfl, h _ _ _ _ h1, h _ _ _ _ h2⟩

theorem ExR.lasts : ∀ d, Lasts (ExR d) := by
  intro d
  induction d with
  | zero => intro w w' vs x h _; exact h.elim
  | succ d ih =>
    rintro w w' vs x ⟨ve, vc, rfl, h1, h2⟩ hb
    exact ⟨ve, vc, rfl, h1.later ih hb, h2.later (ClR.lasts ih) hb⟩
theorem ExR.shape : ∀ d w vs x, ExR d w vs x → ShExpr vs := by
  intro d w vs x h
  cases d with
  | zero => exact h.elim
  | succ d =>
    obtain ⟨ve, vc, rfl, h1, h2⟩ := h
    obtain ⟨a, c, rfl⟩ := h1.slice
    obtain ⟨a', c', rfl⟩ := h2.slice
    exact ⟨_, _, _, _, _, _, _, _, _, rfl⟩
theorem sh_two {p x : List Value} (h1 : ShExpr p) (h2 : ShExpr x) : ShClause (p ++ x) := by
  obtain ⟨_, _, _, _, _, _, _, _, _, rfl⟩ := h1
  obtain ⟨_, _, _, _, _, _, _, _, _, rfl⟩ := h2
  exact ⟨_, _, _, _, _, _, _, _, _, _, _, _, _, _, _, _, _, _, rfl⟩
theorem ClR.shape {α : Type} {R : World → List Value → α → Prop} (h : ∀ w vs x, R w vs x → ShExpr vs) : ∀ w vs c, ClR R w vs c → ShClause vs := by
  rintro w vs c ⟨p, x, rfl, h1, h2⟩
  exact sh_two (h _ _ _ h1) (h _ _ _ h2)
theorem ClO.shape {α : Type} {O : World → List Value → α → List Nat → Prop} (h : ∀ w vs x f, O w vs x f → ShExpr vs) : ∀ w vs c f, ClO O w vs c f → ShClause vs := by
  rintro w vs c fp ⟨p, x, f, g, rfl, rfl, h1, h2⟩
  exact sh_two (h _ _ _ _ h1) (h _ _ _ _ h2)

/-! The measure. -/

theorem lft_two (left : Int) (a b : Nat) (h : 0 ≤ left) : (lft left a < 0 → lft left (a + b) = -1) ∧ (¬ lft left a < 0 → lft (lft left a) b = lft left (a + b) ∧ 0 ≤ lft left a ∧ lft left a ≤ left) := by
  unfold lft
  refine ⟨fun h1 => ?_, fun h1 => ?_⟩
  · by_cases h2 : (a : Int) ≤ left
    · rw [if_pos h2] at h1; omega
    · rw [if_neg (by omega)]
  · by_cases h2 : (a : Int) ≤ left
    · rw [if_pos h2] at h1 ⊢
      refine ⟨?_, by omega, by omega⟩
      by_cases h3 : (b : Int) ≤ left - a
      · rw [if_pos h3, if_pos (by omega)]; omega
      · rw [if_neg h3, if_neg (by omega)]
    · rw [if_neg h2] at h1; omega

end Go.Proofs.Ytkkdnkdkelligaa

/- The law's own copy and comparison of expressions: the walks. -/
namespace Go.Proofs.Ytkkdnkdkelligaa
open Go.RowKit
set_option linter.unusedVariables false

/-- Of all that was there only the blocks of a stretch are turned. -/
structure Kept (p q : Nat) (w w' : World) : Prop where
  os : w'.os = w.os
  tape : w'.tape = w.tape
  output : w'.output = w.output
  size : w.heap.size ≤ w'.heap.size
  block : ∀ g, g < w.heap.size → g < p ∨ q ≤ g → w'.heap[g]? = w.heap[g]?

theorem Kept.refl (p q : Nat) (w : World) : Kept p q w w := ⟨rfl, rfl, rfl, Nat.le_refl _, fun _ _ _ => rfl⟩
theorem Kept.trans {p q : Nat} {a b c : World} (h : Kept p q a b) (k : Kept p q b c) : Kept p q a c :=
  ⟨k.os.trans h.os, k.tape.trans h.tape, k.output.trans h.output, Nat.le_trans h.size k.size, fun g h1 h2 => (k.block g (Nat.lt_of_lt_of_le h1 h.size) h2).trans (h.block g h1 h2)⟩
theorem Kept.drew {p q : Nat} {a w : World} (h : Kept p q a w) : Kept p q a w.drew := h.trans ⟨rfl, rfl, rfl, Nat.le_refl _, fun _ _ _ => rfl⟩
theorem Kept.set {p q : Nat} {a w : World} {g o : Nat} {v : Value} (hg : p ≤ g ∧ g < q) (h : Kept p q a w) : Kept p q a (w.setCell ⟨g, o, none⟩ v) := by
  have b := (Below.refl g w).setCell (p := ⟨g, o, none⟩) (Nat.le_refl g) v
  exact h.trans ⟨b.os, b.tape, b.output, b.size, fun x h1 h2 => heap_setCell_other _ _ _ _ (by simp; omega)⟩
theorem Kept.of_below {p q : Nat} {a b : World} (h : Below a.heap.size a b) : Kept p q a b := ⟨h.os, h.tape, h.output, h.size, fun g hg _ => h.block g hg⟩
theorem Kept.below {p q B : Nat} {a b : World} (h : Kept p q a b) (hp : B ≤ p) (hB : B ≤ a.heap.size) : Below B a b := ⟨h.os, h.tape, h.output, h.size, fun g hg => h.block g (by omega) (.inl (by omega))⟩

theorem heap_three (w : World) (o1 o2 o3 : Obj) : (((w.alloc o1).alloc o2).alloc o3).heap[w.heap.size]? = some o1 ∧ (((w.alloc o1).alloc o2).alloc o3).heap[w.heap.size + 1]? = some o2 ∧ (((w.alloc o1).alloc o2).alloc o3).heap[w.heap.size + 1 + 1]? = some o3 := by
  have h1 := heap_alloc_new w o1
  have h2 := heap_alloc_new (w.alloc o1) o2
  have h3 := heap_alloc_new ((w.alloc o1).alloc o2) o3
  have z1 : (w.alloc o1).heap.size = w.heap.size + 1 := by simp
  have z2 : ((w.alloc o1).alloc o2).heap.size = w.heap.size + 1 + 1 := by simp
  rw [z1] at h2
  rw [z2] at h3
  refine ⟨?_, ?_, h3⟩
  · rw [Below.heap_alloc _ _ _ (by omega), Below.heap_alloc _ _ _ (by omega)]; exact h1
  · rw [Below.heap_alloc _ _ _ (by omega)]; exact h2

theorem fresh_two {B : Nat} {w1 V1 w2 Z : World} {f g : List Nat} {m : Nat} (h1 : Fresh m w1 f) (h2 : Fresh V1.heap.size w2 g) (z1 : w1.heap.size ≤ V1.heap.size) (z2 : V1.heap.size ≤ w2.heap.size) (z3 : w2.heap.size ≤ Z.heap.size) (hB : B ≤ m) (hV : B ≤ V1.heap.size) : Fresh B Z (f ++ g) := by
  refine ⟨List.nodup_append.2 ⟨h1.1, h2.1, fun a ha b hb e => by have := (h1.2 a ha).2; have := (h2.2 b hb).1; omega⟩, fun x hx => ?_⟩
  rcases List.mem_append.1 hx with hx | hx
  · have := h1.2 x hx; omega
  · have := h2.2 x hx; omega

end Go.Proofs.Ytkkdnkdkelligaa

/- Binds as data: a name and a term; the law's own measure, copy and comparison of them. -/
namespace Go.Proofs.Ytkkdnkdkelligaa
open Go.RowKit
set_option linter.unusedVariables false

def Bn (d : Nat) : Type := ByteArray × Tm (d + 1)
def Bn.nm {d : Nat} (b : Bn d) : ByteArray := b.1
def Bn.t {d : Nat} (b : Bn d) : Tm (d + 1) := b.2

def BnR (d : Nat) (w : World) (vs : List Value) (b : Bn d) : Prop := ∃ lv, vs = [.string b.nm, .int .i64 b.t.K, .int .i64 b.t.N, .string b.t.S, lv] ∧ RdL d w lv b.t.L
def BnO (d : Nat) (w : World) (vs : List Value) (b : Bn d) (fp : List Nat) : Prop := ∃ lv, vs = [.string b.nm, .int .i64 b.t.K, .int .i64 b.t.N, .string b.t.S, lv] ∧ OwnL d w lv b.t.L fp
def WfB (d : Nat) (b : Bn d) : Prop := b.nm.size ≤ maxLen ∧ I64 b.t.K ∧ I64 b.t.N ∧ b.t.S.size ≤ maxLen ∧ WfL d b.t.L
def szB (d : Nat) (b : Bn d) : Nat := b.nm.size + (b.t.S.size + szL d b.t.L)

theorem BnR.lasts (d : Nat) : Lasts (BnR d) := by
  rintro w w' vs b ⟨lv, rfl, h⟩ hb
  exact ⟨lv, rfl, h.later hb⟩
theorem BnO.lasts (d : Nat) : LastsO (BnO d) := by
  rintro w w' vs b fp ⟨lv, rfl, h⟩ hb
  exact ⟨lv, rfl, h.frame hb⟩
theorem BnO.reads (d : Nat) : Reads (BnO d) (BnR d) := by
  rintro w vs b fp ⟨lv, rfl, h⟩
  exact ⟨lv, rfl, h.rd⟩
theorem BnR.shape (d : Nat) : ∀ w vs b, BnR d w vs b → ShBind vs := by
  rintro w vs b ⟨lv, rfl, h⟩
  obtain ⟨a, l, c, rfl⟩ := h.shape
  exact ⟨_, _, _, _, _, _, _, rfl⟩
theorem BnO.shape (d : Nat) : ∀ w vs b fp, BnO d w vs b fp → ShBind vs := fun w vs b fp h => BnR.shape d w vs b (BnO.reads d w vs b fp h)

set_option maxHeartbeats 1000000 in
theorem szBind_any (d : Nat) : SzEl 26 (BnR d) (WfB d) (szB d) := by
  rintro vs x left w ⟨lv, rfl, h1⟩ ⟨w1, _, _, w4, w5⟩ h0 hm
  obtain ⟨a, l, c, rfl⟩ := h1.shape
  have hs : x.nm.size ≤ 9223372036854775807 := by unfold maxLen at w1; omega
  obtain ⟨W, hW⟩ : ∃ W, W = w.alloc (Obj.cells #[.string x.nm, .int .i64 x.t.K, .int .i64 x.t.N, .string x.t.S, .slice a l c] 52) := ⟨_, rfl⟩
  have hA : Below w.heap.size w W := by rw [hW]; exact (Below.refl _ _).alloc (Nat.le_refl _) _
  obtain ⟨A, hA0⟩ : ∃ A, x.t.S.size + szL d x.t.L = A := ⟨_, rfl⟩
  have e0 : szB d x = x.nm.size + A := by rw [← hA0]; rfl
  rw [e0]
  have HEE := szTerm_of d (szTermS_any d) x.t.K x.t.N x.t.S _ x.t.L (left - x.nm.size) W (h1.later hA) w5 w4
  rw [hA0] at HEE
  obtain ⟨S, hS⟩ : ∃ S, x.nm = S := ⟨_, rfl⟩
  obtain ⟨K, hK⟩ : ∃ K, x.t.K = K := ⟨_, rfl⟩
  obtain ⟨N, hN⟩ : ∃ N, x.t.N = N := ⟨_, rfl⟩
  obtain ⟨T, hT⟩ : ∃ T, x.t.S = T := ⟨_, rfl⟩
  rw [hS, hK, hN, hT] at hW
  rw [hS, hK, hN, hT] at HEE
  rw [hS] at hs
  rw [hS, hK, hN, hT]
  clear e0 hA0 w1 w4 w5 h1 hS hK hN hT
  by_cases hlt : left < S.size
  · have HF : Hid ((-1 : Int) = lft left (S.size + A)) := by unfold lft; rw [if_neg (by omega)]; exact rfl
    rw [hW] at hA
    clear HEE
    go_enter Try.func26, Try.ntmps26
    go_wp2
    go_ret
    exact ⟨tret1 HF.out, hA⟩
  · have hC := HEE (by omega) (by omega)
    have L0 : lft (left - S.size) A = lft left (S.size + A) := by
      unfold lft
      by_cases h : (A : Int) ≤ left - S.size
      · rw [if_pos h, if_pos (by omega)]; omega
      · rw [if_neg h, if_neg (by omega)]
    rw [L0] at hC
    obtain ⟨y, hy⟩ : ∃ y, lft left (S.size + A) = y := ⟨_, rfl⟩
    have HYN : Hid (y < 0 → y = -1) := fun h => by
      rw [← hy] at h ⊢
      unfold lft at h ⊢
      split at h
      · omega
      · rename_i h4; rw [if_neg h4]
    rw [hy] at hC
    rw [hy]
    rw [hW] at hC
    have HW : Hid (W = _) := hW
    clear hW HEE L0 hy
    by_cases hneg : y < 0
    · have e1 := HYN.out hneg
      subst e1
      go_enter Try.func26, Try.ntmps26
      go_wp2_with fail
      refine hC.mono ?_
      clear hC
      rintro e w1 ⟨rfl, hb1⟩
      rw [← HW.out] at hb1
      have hb2 : Below w.heap.size w w1 := hA.trans (hb1.mono hA.size)
      clear hb1
      go_wp2
      go_ret
      exact ⟨rfl, hb2⟩
    · go_enter Try.func26, Try.ntmps26
      go_wp2_with fail
      refine hC.mono ?_
      clear hC
      rintro e w1 ⟨rfl, hb1⟩
      rw [← HW.out] at hb1
      have hb2 : Below w.heap.size w w1 := hA.trans (hb1.mono hA.size)
      clear hb1
      go_wp2
      go_ret
      exact ⟨rfl, hb2⟩

theorem szBindS_any (d : Nat) : SzLs 11 5 (BnR d) (WfB d) (szB d) := szBindS_of _ _ _ (BnR.lasts d) (BnR.shape d) (szBind_any d)

set_option maxHeartbeats 1000000 in
theorem toBind_any (d : Nat) : ToEl 28 (BnR d) (BnO d) (WfB d) (szB d) := by
  rintro vs x w ⟨lv, rfl, h1⟩ ⟨_, _, _, _, w5⟩ hz
  have hz' : x.nm.size + (x.t.S.size + szL d x.t.L) ≤ 1048576 := hz
  obtain ⟨a, l, c, rfl⟩ := h1.shape
  obtain ⟨S, hS⟩ : ∃ S, x.nm = S := ⟨_, rfl⟩
  obtain ⟨K, hK⟩ : ∃ K, x.t.K = K := ⟨_, rfl⟩
  obtain ⟨N, hN⟩ : ∃ N, x.t.N = N := ⟨_, rfl⟩
  obtain ⟨T, hT⟩ : ∃ T, x.t.S = T := ⟨_, rfl⟩
  have HX : Hid (x.nm = S ∧ x.t.K = K ∧ x.t.N = N ∧ x.t.S = T) := ⟨hS, hK, hN, hT⟩
  rw [hS, hK, hN, hT]
  obtain ⟨W, hW⟩ : ∃ W, W = ((w.alloc (Obj.cells #[.string S, .int .i64 K, .int .i64 N, .string T, .slice a l c] 52)).alloc (.cells #[.string ⟨#[]⟩, .int .i64 0, .int .i64 0, .string ⟨#[]⟩, .slice none 0 0] 54)).alloc (.cells #[.string S, .int .i64 0, .int .i64 0, .string ⟨#[]⟩, .slice none 0 0] 54) := ⟨_, rfl⟩
  obtain ⟨nA, nB, nC⟩ := heap_three w (Obj.cells #[.string S, .int .i64 K, .int .i64 N, .string T, .slice a l c] 52) (.cells #[.string ⟨#[]⟩, .int .i64 0, .int .i64 0, .string ⟨#[]⟩, .slice none 0 0] 54) (.cells #[.string S, .int .i64 0, .int .i64 0, .string ⟨#[]⟩, .slice none 0 0] 54)
  rw [← hW] at nA nB nC
  have hWb : Below w.heap.size w W := by rw [hW]; exact (((Below.refl _ _).alloc (Nat.le_refl _) _).alloc (by simp) _).alloc (by simp; omega) _
  have hWs : W.heap.size = w.heap.size + 1 + 1 + 1 := by rw [hW]; simp
  have hC := toTerm_of d (toTermS_any d) K N T _ x.t.L W (h1.later hWb) w5 (by omega)
  rw [hW] at hC
  have HW : Hid (W = _) := hW
  clear hW h1 w5 hz hz' hS hK hN hT nA
  go_enter Try.func28, Try.ntmps28
  go_wp2_with fail
  refine hC.mono ?_
  clear hC
  rintro e w2 ⟨a2, l2, c2, fp, rfl, hown, hfr, hb⟩
  rw [← HW.out] at hfr hb
  have nB2 := (hb.block _ (lt_row nB)).trans nB
  have nC2 := (hb.block _ (lt_row nC)).trans nC
  have hz2 := hb.size
  have HFIN : Hid (∀ Z, Kept (w.heap.size + 1) (w.heap.size + 1 + 1 + 1) w2 Z → BnO d Z [.string S, .int .i64 K, .int .i64 N, .string T, .slice a2 l2 c2] x fp ∧ Fresh w.heap.size Z fp ∧ Below w.heap.size w Z) := fun Z hZ => by
    have hzZ := hZ.size
    obtain ⟨rfl, rfl, rfl, rfl⟩ := HX.out
    refine ⟨⟨_, rfl, hown.frame fun g hg => ?_⟩, ⟨hfr.1, fun g hg => ?_⟩, ?_⟩
    · exact hZ.block g (hfr.2 g hg).2 (.inr (by have := (hfr.2 g hg).1; omega))
    · have := hfr.2 g hg; omega
    · have hbw2 : Below w.heap.size w w2 := hWb.trans (hb.mono hWb.size)
      exact hbw2.trans (hZ.below (by omega) hbw2.size)
  have bcell : ∀ j u, (#[.string ⟨#[]⟩, .int .i64 0, .int .i64 0, .string ⟨#[]⟩, .slice none 0 0] : Array Value)[j]? = some u → w2.cell? ⟨w.heap.size + 1, j, none⟩ = some u := fun j u hu => by rw [cell_of_row w2 _ _ _ _ _ nB2]; exact hu
  have ccell : ∀ j u, (#[.string S, .int .i64 0, .int .i64 0, .string ⟨#[]⟩, .slice none 0 0] : Array Value)[j]? = some u → w2.cell? ⟨w.heap.size + 1 + 1, j, none⟩ = some u := fun j u hu => by rw [cell_of_row w2 _ _ _ _ _ nC2]; exact hu
  have hfB : ∀ j, w2.frozen? ⟨w.heap.size + 1, j, none⟩ = false := fun j => frozen_of_row w2 _ _ _ _ nB2
  have hfC : ∀ j, w2.frozen? ⟨w.heap.size + 1 + 1, j, none⟩ = false := fun j => frozen_of_row w2 _ _ _ _ nC2
  have b0 := bcell 0 _ rfl
  have y0 := hfB 0
  have g0 := ccell 0 _ rfl
  have z0 := hfC 0
  have b1 := bcell 1 _ rfl
  have y1 := hfB 1
  have g1 := ccell 1 _ rfl
  have z1 := hfC 1
  have b2 := bcell 2 _ rfl
  have y2 := hfB 2
  have g2 := ccell 2 _ rfl
  have z2 := hfC 2
  have b3 := bcell 3 _ rfl
  have y3 := hfB 3
  have g3 := ccell 3 _ rfl
  have z3 := hfC 3
  have b4 := bcell 4 _ rfl
  have y4 := hfB 4
  have g4 := ccell 4 _ rfl
  have z4 := hfC 4
  clear nB2 nC2 nB nC hown hfr hb bcell ccell hfB hfC hWb
  go_wp2_with fail
  refine bodyPost_ret (v := .agg #[.string S, .int .i64 K, .int .i64 N, .string T, .slice a2 l2 c2]) (by first | (simp [results, Try.results28, go_sem, b0, b1, b2, b3, b4]; done) | (simp [results, Try.results28, go_sem, b0, b1, b2, b3, b4]; rfl)) rfl ⟨[.string S, .int .i64 K, .int .i64 N, .string T, .slice a2 l2 c2], fp, rfl, HFIN.out _ ?_⟩
  repeat (first | with_reducible exact Kept.refl _ _ _ | with_reducible refine Kept.drew ?_ | (with_reducible refine Kept.set ?_ ?_; omega))

theorem toBindS_any (d : Nat) : ToLs 13 5 54 (BnR d) (BnO d) (WfB d) (szB d) := toBindS_of _ _ _ _ (BnR.lasts d) (BnO.lasts d) (BnR.shape d) (BnO.shape d) (toBind_any d)

set_option maxHeartbeats 1000000 in
theorem eqBind_any (d : Nat) : EqEl 32 (BnR d) (WfB d) := by
  rintro vs1 vs2 x w ⟨lv, rfl, h1⟩ ⟨lv', rfl, h2⟩ ⟨_, _, _, _, w5⟩
  obtain ⟨a, l, c, rfl⟩ := h1.shape
  obtain ⟨b, m, e, rfl⟩ := h2.shape
  obtain ⟨S, hS⟩ : ∃ S, x.nm = S := ⟨_, rfl⟩
  obtain ⟨K, hK⟩ : ∃ K, x.t.K = K := ⟨_, rfl⟩
  obtain ⟨N, hN⟩ : ∃ N, x.t.N = N := ⟨_, rfl⟩
  obtain ⟨T, hT⟩ : ∃ T, x.t.S = T := ⟨_, rfl⟩
  rw [hS, hK, hN, hT]
  have hA : Below w.heap.size w ((w.alloc (.cells #[.string S, .int .i64 K, .int .i64 N, .string T, .slice a l c] 54)).alloc (.cells #[.string S, .int .i64 K, .int .i64 N, .string T, .slice b m e] 54)) := ((Below.refl _ _).alloc (Nat.le_refl _) _).alloc (by simp) _
  have hC := eqTerm_of d (eqTermS_any d) K N T _ _ x.t.L _ (h1.later hA) (h2.later hA) w5
  clear h1 h2 w5 hS hK hN hT
  go_enter Try.func32, Try.ntmps32
  go_wp2_with fail
  refine hC.mono ?_
  clear hC
  rintro e w1 ⟨rfl, hb⟩
  have hb2 : Below w.heap.size w w1 := hA.trans (hb.mono (by simp; omega))
  clear hA hb
  go_wp2
  go_ret
  exact ⟨rfl, hb2⟩

theorem eqBindS_any (d : Nat) : EqLs 16 5 (BnR d) (WfB d) := eqBindS_of _ _ (BnR.lasts d) (BnR.shape d) (eqBind_any d)

end Go.Proofs.Ytkkdnkdkelligaa

/- The law's own copy and comparison of expressions: the rest of the walks. -/
namespace Go.Proofs.Ytkkdnkdkelligaa
open Go.RowKit
set_option linter.unusedVariables false

end Go.Proofs.Ytkkdnkdkelligaa

/- Which of two terms is less, and that the model's comparison tells it. -/
namespace Go.Proofs.Ytkkdnkdkelligaa
open Go.RowKit
set_option linter.unusedVariables false

/-- The order of lists by the first that are unlike, then by how many. -/
def ltList {α : Type} (lt : α → α → Prop) : List α → List α → Prop
  | [], [] => False
  | [], _ :: _ => True
  | _ :: _, [] => False
  | a :: xs, b :: zs => (a = b ∧ ltList lt xs zs) ∨ (a ≠ b ∧ lt a b)

def BLt (s s' : ByteArray) : Prop := Op.bytesLess s.toList s'.toList = true

/-- The order of terms. -/
def Lt : (d : Nat) → Tm d → Tm d → Prop
  | 0, _, _ => False
  | d + 1, a, b => (a.K ≠ b.K ∧ a.K < b.K) ∨ (a.K = b.K ∧ (((a.K = 1 ∨ a.K = 3) ∧ a.N < b.N) ∨ (a.K = 2 ∧ BLt a.S b.S) ∨ ((a.K = 4 ∧ a.L.length ≠ b.L.length) ∧ a.L.length < b.L.length) ∨
      ((¬ (a.K = 1 ∨ a.K = 3) ∧ ¬ a.K = 2 ∧ ¬ (a.K = 4 ∧ a.L.length ≠ b.L.length)) ∧ ltList (Lt d) a.L b.L)))

theorem ltList_drop {α : Type} {lt : α → α → Prop} : ∀ (j : Nat) (xs zs : List α), j ≤ xs.length → j ≤ zs.length → (∀ m, m < j → xs[m]? = zs[m]?) → (ltList lt xs zs ↔ ltList lt (xs.drop j) (zs.drop j)) := by
  intro j
  induction j with
  | zero => intro xs zs _ _ _; simp
  | succ j ih =>
    intro xs zs h1 h2 h
    cases xs with
    | nil => simp at h1
    | cons a xs =>
      cases zs with
      | nil => simp at h2
      | cons b zs =>
        have e : a = b := by have := h 0 (by omega); simpa using this
        subst e
        rw [List.drop_succ_cons, List.drop_succ_cons, ← ih xs zs (by simpa using h1) (by simpa using h2) fun m hm => by have := h (m + 1) (by omega); simpa using this]
        show (a = a ∧ _) ∨ (a ≠ a ∧ _) ↔ _
        simp

theorem ltList_at {α : Type} {lt : α → α → Prop} {xs zs : List α} {j : Nat} {a b : α} (h1 : xs[j]? = some a) (h2 : zs[j]? = some b) (h : ∀ m, m < j → xs[m]? = zs[m]?) (hne : a ≠ b) : ltList lt xs zs ↔ lt a b := by
  have l1 := (List.getElem?_eq_some_iff.1 h1).1
  have l2 := (List.getElem?_eq_some_iff.1 h2).1
  have e1 := (List.getElem?_eq_some_iff.1 h1).2
  have e2 := (List.getElem?_eq_some_iff.1 h2).2
  rw [ltList_drop j xs zs (by omega) (by omega) h, List.drop_eq_getElem_cons l1, List.drop_eq_getElem_cons l2, e1, e2]
  show (a = b ∧ _) ∨ (a ≠ b ∧ _) ↔ _
  simp [hne]

theorem ltList_end {α : Type} {lt : α → α → Prop} {xs zs : List α} {j : Nat} (h1 : j ≤ xs.length) (h2 : j ≤ zs.length) (he : j = xs.length ∨ j = zs.length) (h : ∀ m, m < j → xs[m]? = zs[m]?) : ltList lt xs zs ↔ xs.length < zs.length := by
  rw [ltList_drop j xs zs h1 h2 h]
  rcases he with rfl | rfl
  · rw [List.drop_length]
    cases hb : zs.drop xs.length with
    | nil =>
      have := List.drop_eq_nil_iff.1 hb
      exact ⟨fun h => absurd h (by show ¬ False; simp), fun h => by omega⟩
    | cons b r =>
      have : xs.length < zs.length := Nat.lt_of_not_le fun hn => by rw [List.drop_eq_nil_of_le hn] at hb; cases hb
      exact ⟨fun _ => this, fun _ => trivial⟩
  · rw [List.drop_length]
    cases ha : xs.drop zs.length with
    | nil => exact ⟨fun h => absurd h (by show ¬ False; simp), fun h => by omega⟩
    | cons a r => exact ⟨fun h => absurd h (by show ¬ False; simp), fun h => by omega⟩

/-- A term of its four fields. -/
def mk {d : Nat} (k n : Int) (s : ByteArray) (ts : List (Tm d)) : Tm (d + 1) := (k, n, s, ts)

theorem Tm.eta {d : Nat} (t : Tm (d + 1)) : mk t.K t.N t.S t.L = t := rfl

def LessC (f d : Nat) : Prop := ∀ (k n : Int) (s : ByteArray) (l : Value) (ts : List (Tm d)) (k' n' : Int) (s' : ByteArray) (l' : Value) (ts' : List (Tm d)) (w : World), RdL d w l ts → RdL d w l' ts' → WfL d ts → WfL d ts' →
  Calls Try.prog f #[.agg #[.int .i64 k, .int .i64 n, .string s, l], .agg #[.int .i64 k', .int .i64 n', .string s', l']] w fun e w' => ∃ b : Bool, e = .returned (.bool b) ∧ (b = true ↔ Lt (d + 1) (mk k n s ts) (mk k' n' s' ts')) ∧ Below w.heap.size w w'

theorem lt_k {d : Nat} {k n : Int} {s : ByteArray} {ts : List (Tm d)} {k' n' : Int} {s' : ByteArray} {ts' : List (Tm d)} (h : k ≠ k') : Lt (d + 1) (mk k n s ts) (mk k' n' s' ts') ↔ k < k' :=
  ⟨fun h1 => by rcases h1 with h1 | h1; exact h1.2; exact absurd h1.1 h, fun h1 => .inl ⟨h, h1⟩⟩
theorem lt_n {d : Nat} {k n : Int} {s : ByteArray} {ts : List (Tm d)} {n' : Int} {s' : ByteArray} {ts' : List (Tm d)} (h : k = 1 ∨ k = 3) : Lt (d + 1) (mk k n s ts) (mk k n' s' ts') ↔ n < n' := by
  constructor
  · intro h1
    rcases h1 with h1 | ⟨_, h1 | h1 | h1 | h1⟩
    · exact absurd rfl h1.1
    · exact h1.2
    · have : k = 2 := h1.1; omega
    · have : k = 4 := h1.1.1; omega
    · exact absurd h h1.1.1
  · exact fun h1 => .inr ⟨rfl, .inl ⟨h, h1⟩⟩
theorem lt_s {d : Nat} {k n : Int} {s : ByteArray} {ts : List (Tm d)} {n' : Int} {s' : ByteArray} {ts' : List (Tm d)} (h : k = 2) : Lt (d + 1) (mk k n s ts) (mk k n' s' ts') ↔ BLt s s' := by
  constructor
  · intro h1
    rcases h1 with h1 | ⟨_, h1 | h1 | h1 | h1⟩
    · exact absurd rfl h1.1
    · have h2 : k = 1 ∨ k = 3 := h1.1; omega
    · exact h1.2
    · have : k = 4 := h1.1.1; omega
    · exact absurd h h1.1.2.1
  · exact fun h1 => .inr ⟨rfl, .inr (.inl ⟨h, h1⟩)⟩
theorem lt_l {d : Nat} {k n : Int} {s : ByteArray} {ts : List (Tm d)} {n' : Int} {s' : ByteArray} {ts' : List (Tm d)} (h : k = 4 ∧ ts.length ≠ ts'.length) : Lt (d + 1) (mk k n s ts) (mk k n' s' ts') ↔ ts.length < ts'.length := by
  constructor
  · intro h1
    rcases h1 with h1 | ⟨_, h1 | h1 | h1 | h1⟩
    · exact absurd rfl h1.1
    · have h2 : k = 1 ∨ k = 3 := h1.1; omega
    · have : k = 2 := h1.1; omega
    · exact h1.2
    · exact absurd h h1.1.2.2
  · exact fun h1 => .inr ⟨rfl, .inr (.inr (.inl ⟨h, h1⟩))⟩
theorem lt_e {d : Nat} {k n : Int} {s : ByteArray} {ts : List (Tm d)} {n' : Int} {s' : ByteArray} {ts' : List (Tm d)} (h1 : ¬ (k = 1 ∨ k = 3)) (h2 : ¬ k = 2) (h3 : ¬ (k = 4 ∧ ts.length ≠ ts'.length)) : Lt (d + 1) (mk k n s ts) (mk k n' s' ts') ↔ ltList (Lt d) ts ts' := by
  constructor
  · intro h
    rcases h with h | ⟨_, h | h | h | h⟩
    · exact absurd rfl h.1
    · exact absurd h.1 h1
    · exact absurd h.1 h2
    · exact absurd h.1 h3
    · exact h.2
  · exact fun h => .inr ⟨rfl, .inr (.inr (.inr ⟨⟨h1, h2, h3⟩, h⟩))⟩

end Go.Proofs.Ytkkdnkdkelligaa
