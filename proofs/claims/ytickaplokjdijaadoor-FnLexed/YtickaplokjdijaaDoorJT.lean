/- Rows of tokens: how they come in, how the law copies them, and what they are joined to by the model. -/
import Derived.Test.YtickaplokjdijaaDoorDr2
import Derived.Test.YtickaplokjdijaaDoorTkRead
import Derived.Deep.RegionWith
namespace Go.Proofs.YtickaplokjdijaaDoor
open Go.RowKit Go.ChangeShapes Go.WideShapes Go.Joins Go.Deep
set_option linter.unusedVariables false

/-- A token: its kind, its number, its text. -/
def Tk : Type := Int × Int × ByteArray
/-- A token's three cells. -/
def Th (w : World) (b o : Nat) (t : Tk) : Prop := w.cell? ⟨b, o, none⟩ = some (.int .i64 t.1) ∧ w.cell? ⟨b, o + 1, none⟩ = some (.int .i64 t.2.1) ∧ w.cell? ⟨b, o + 2, none⟩ = some (.string t.2.2)
/-- A row that reads as these tokens. -/
def RdO (w : World) (a : Option Addr) (ts : List Tk) : Prop := ∀ (i : Nat) (t : Tk), ts[i]? = some t → ∃ b o, a = some ⟨b, o, none⟩ ∧ Th w b (o + i * 3) t
/-- What is so of tokens that came in. -/
def WfK (ts : List Tk) : Prop := ts.length ≤ 9223372036854775807 ∧ ∀ t ∈ ts, t.2.2.size ≤ maxLen

theorem RdO.later {w w' : World} {a : Option Addr} {ts : List Tk} (h : RdO w a ts) (hb : Below w.heap.size w w') : RdO w' a ts := fun i t ht => by
  obtain ⟨b, o, e, h1, h2, h3⟩ := h i t ht
  exact ⟨b, o, e, cell_later hb h1, cell_later hb h2, cell_later hb h3⟩

theorem cells3 {w : World} {base : Nat} {a : Addr} {cs : List Value} (h : w.cells? base a 3 = some cs) :
    ∃ c0 c1 c2, cs = [c0, c1, c2] ∧ w.cell? (a.add 0) = some c0 ∧ w.cell? (a.add 1) = some c1 ∧ w.cell? (a.add 2) = some c2 := by
  unfold World.cells? at h
  split at h
  · simp only [show List.range 3 = [0, 1, 2] from rfl, List.mapM_cons, List.mapM_nil, Option.bind_eq_bind, Option.pure_def] at h
    obtain ⟨c0, h0, h⟩ := Option.bind_eq_some_iff.1 h
    obtain ⟨r1, h, e0⟩ := Option.bind_eq_some_iff.1 h
    obtain ⟨c1, h1, h⟩ := Option.bind_eq_some_iff.1 h
    obtain ⟨r2, h, e1⟩ := Option.bind_eq_some_iff.1 h
    obtain ⟨c2, h2, h⟩ := Option.bind_eq_some_iff.1 h
    obtain ⟨r3, h, e2⟩ := Option.bind_eq_some_iff.1 h
    cases h
    cases e2
    cases e1
    cases e0
    exact ⟨c0, c1, c2, rfl, h0, h1, h2⟩
  · cases h

section
variable {H : Type} {enc : TypeId × Value → H} {W : World} {base : Nat} {spare : Nat → Bool} {held : Bool}

set_option maxRecDepth 100000 in
theorem read_tokens (m : Nat) (v : Value) (x : DataW H × List MemPlace) (h : DataW.trod enc Tryd.prog W base spare held m 50 [v] = some x) : ∃ (a : Option Addr) (c : Nat) (ts : List Tk), v = .slice a ts.length c ∧ RdO W a ts ∧ WfK ts := by
  rcases DataW.trod_slice Tryd.underlying50 h with ⟨hv, _⟩ | ⟨a, len, cap, elems, rest, n, rfl, hv, _, _, hlc, hcm, hel, hx, _, _⟩
  · simp only [List.cons.injEq, and_true] at hv
    subst hv
    exact ⟨none, 0, [], rfl, fun i t ht => by simp at ht, by simp, fun t ht => by cases ht⟩
  · simp only [List.cons.injEq, and_true] at hv
    subst hv
    have one : ∀ i, i < len → ∃ t : Tk, ∃ b o, a = ⟨b, o, none⟩ ∧ Th W b (o + i * 3) t ∧ t.2.2.size ≤ maxLen := by
      intro i hi
      have h1 := hx i hi
      rw [List.getElem?_eq_getElem (by omega), Tryd.cellsToken] at h1
      obtain ⟨cs, hc, h2⟩ := Option.bind_eq_some_iff.1 h1
      obtain ⟨c0, c1, c2, rfl, k0, k1, k2⟩ := cells3 hc
      obtain ⟨k, l, s, rfl, rfl, rfl, wk, wl, ws⟩ := read_three h2
      rw [Deep.add_add] at k0 k1 k2
      have hspot : a.spot = none := by
        have h3 := hx 0 (by omega)
        rw [List.getElem?_eq_getElem (by omega), Tryd.cellsToken] at h3
        obtain ⟨cs', hc', _⟩ := Option.bind_eq_some_iff.1 h3
        obtain ⟨_, _, _, _, z0, _⟩ := cells3 hc'
        have := World.cell?_spot z0
        simpa [Addr.add] using this
      obtain ⟨b, o, sp⟩ := a
      simp only at hspot
      subst hspot
      simp only [Addr.add_lit, Nat.add_zero, ← Nat.add_assoc] at k0 k1 k2
      exact ⟨(k, l, s), b, o, rfl, ⟨k0, k1, k2⟩, ws⟩
    haveI : Inhabited Tk := ⟨((0, 0, ByteArray.empty) : Int × Int × ByteArray)⟩
    obtain ⟨f, hf⟩ := choose_lt one
    refine ⟨some a, cap, (List.range len).map f, by simp, fun i t ht => ?_, by simp; unfold maxLen at hcm; omega, fun t ht => ?_⟩
    · have hi : i < len := by have := (List.getElem?_eq_some_iff.1 ht).1; simpa using this
      obtain ⟨b, o, e, h4, _⟩ := hf i hi
      have et : f i = t := by simpa [hi] using ht
      rw [et] at h4
      exact ⟨b, o, by rw [e], h4⟩
    · obtain ⟨i, hi, rfl⟩ := List.mem_map.1 ht
      obtain ⟨b, o, _, _, h1⟩ := hf i (List.mem_range.1 hi)
      exact h1
end

/-- How many bytes the texts of the first tokens have. -/
def sP (ts : List Tk) (i : Nat) : Nat := ((ts.take i).map fun t => t.2.2.size).sum
theorem sP_succ (ts : List Tk) (i : Nat) (t : Tk) (h : ts[i]? = some t) : sP ts (i + 1) = sP ts i + t.2.2.size := by
  unfold sP
  rw [List.take_add_one, h]
  simp
theorem sP_le (ts : List Tk) (i : Nat) : sP ts i ≤ sP ts ts.length := by
  unfold sP
  rw [List.take_length]
  conv => rhs; rw [← List.take_append_drop i ts]
  rw [List.map_append, List.sum_append]
  omega

set_option maxHeartbeats 1000000 in
theorem szTokenS_any (a : Option Addr) (c : Nat) (ts : List Tk) (w : World) (hr : RdO w a ts) (hw : WfK ts) :
    Calls Tryd.prog 25 #[.slice a ts.length c, .int .i64 1048576] w fun e w' => e = .returned (.int .i64 (lft 1048576 (ts.length + sP ts ts.length))) ∧ Below w.heap.size w w' := by
  have HE : Hid (RdO w a ts) := hr
  have HW : Hid (WfK ts) := hw
  have hm : ts.length ≤ 9223372036854775807 := hw.1
  clear hr hw
  obtain ⟨tot, htot⟩ : ∃ tot, sP ts ts.length = tot := ⟨_, rfl⟩
  have HTOT : Hid (∀ i, sP ts i ≤ tot) := fun i => by rw [← htot]; exact sP_le ts i
  have HTO2 : Hid (sP ts ts.length = tot) := htot
  rw [htot]
  obtain ⟨len, hlen⟩ : ∃ len, ts.length = len := ⟨_, rfl⟩
  have HLN : Hid (ts.length = len) := hlen
  rw [hlen] at hm ⊢
  clear hlen htot
  by_cases hlt : (1048576 : Int) < len
  · have HF : Hid ((-1 : Int) = lft 1048576 (len + tot)) := by show _ = _; unfold lft; rw [if_neg (by omega)]
    go_enter Tryd.func25, Tryd.ntmps25
    go_wp2
    go_ret
    exact ⟨tret1 HF.out, Below.refl _ _⟩
  · go_enter Tryd.func25, Tryd.ntmps25
    go_wp2_with fail
    go_loopw [1, 5] (fun x i wr => ∃ k : Nat, k ≤ len ∧ i = .int .i64 k ∧ x = .int .i64 (1048576 - len - sP ts k) ∧ 0 ≤ 1048576 - (len : Int) - sP ts k ∧ Below w.heap.size w wr) (fun _ i _ => len - (intOf i).toNat)
    case atStart => exact ⟨0, Nat.zero_le _, rfl, by simp [sP], by simp [sP]; omega, Below.refl _ _⟩
    case round =>
      obtain ⟨k, hk, rfl, rfl, hx0, hb⟩ := hrel
      obtain ⟨x, hx⟩ : ∃ x, 1048576 - (len : Int) - sP ts k = x := ⟨_, rfl⟩
      have HX : Hid (1048576 - (len : Int) - sP ts k = x) := hx
      rw [hx] at hx0 ⊢
      have hx1 : x ≤ 1048576 := by omega
      clear hx
      by_cases hkl : k < len
      · obtain ⟨t, ht⟩ : ∃ t, ts[k]? = some t := ⟨_, List.getElem?_eq_getElem (by rw [HLN.out]; exact hkl)⟩
        obtain ⟨b, o, rfl, f0, f1, f2⟩ := HE.out k t ht
        have f0 := cell_later hb f0
        have f1 := cell_later hb f1
        have f2 := cell_later hb f2
        have hC := szToken_any t.1 t.2.1 t.2.2 x wr (HW.out.2 t (List.mem_of_getElem? ht)) hx0 hx1
        have hstep := sP_succ ts k t ht
        have hle := HTOT.out (k + 1)
        obtain ⟨y, hy⟩ : ∃ y, lft x t.2.2.size = y := ⟨_, rfl⟩
        rw [hy] at hC
        by_cases hneg : y < 0
        · have HF : Hid ((-1 : Int) = lft 1048576 (len + tot)) := by
            have h3 := HX.out
            unfold lft at hy
            show _ = _
            by_cases h4 : ((t.2.2.size : Nat) : Int) ≤ x
            · rw [if_pos h4] at hy; omega
            · unfold lft; rw [if_neg (by omega)]
          clear hy hstep HX hle
          go_wp2_with fail
          refine hC.mono ?_
          clear hC
          rintro e w1 ⟨rfl, hb1⟩
          have hb2 : Below w.heap.size w w1 := hb.trans (hb1.mono hb.size)
          clear hb1 hb f0 f1 f2
          go_wp2
          go_ret
          exact ⟨tret1 HF.out, hb2⟩
        · have HY : Hid (y = 1048576 - (len : Int) - sP ts (k + 1) ∧ 0 ≤ 1048576 - (len : Int) - sP ts (k + 1)) := by
            have h3 := HX.out
            unfold lft at hy
            by_cases h4 : ((t.2.2.size : Nat) : Int) ≤ x
            · rw [if_pos h4] at hy; show _ ∧ _; omega
            · rw [if_neg h4] at hy; omega
          clear hy hstep HX hle
          go_wp2_with fail
          refine hC.mono ?_
          clear hC
          rintro e w1 ⟨rfl, hb1⟩
          have hb2 : Below w.heap.size w w1 := hb.trans (hb1.mono hb.size)
          clear hb1 hb f0 f1 f2
          go_wp2
          go_roundw
          case rel => exact ⟨k + 1, by omega, by go_num, by rw [HY.out.1], HY.out.2, hb2⟩
          case measure => simp [intOf]; omega
      · have hke : k = len := by omega
        have HF : Hid (x = lft 1048576 (len + tot)) := by
          have h3 := HX.out
          have h4 := HTO2.out
          rw [HLN.out] at h4
          subst hke
          rw [h4] at h3
          show _ = _
          unfold lft
          rw [if_pos (by omega)]
          omega
        clear HX
        go_wp2
        go_ret
        exact ⟨tret1 HF.out, hb⟩

theorem Tryd.infoTok : (Tryd.prog.info? 31).map (fun i => (i.zero, i.size, i.bytes)) = some (some (.agg #[.int .i64 0, .int .i64 0, .string ⟨#[]⟩]), 3, 32) := by kernel_rfl

/-- Three cells put into a row. -/
def put3 (cur : Array Value) (o : Nat) (a b c : Value) : Array Value := ((cur.setIfInBounds o a).setIfInBounds (o + 1) b).setIfInBounds (o + 2) c
theorem put3_size (cur : Array Value) (o : Nat) (a b c : Value) : (put3 cur o a b c).size = cur.size := by simp [put3]
theorem put3_other (cur : Array Value) (o : Nat) (a b c : Value) (j : Nat) (h : j < o ∨ o + 2 < j) : (put3 cur o a b c)[j]? = cur[j]? := by
  unfold put3
  rw [Array.getElem?_setIfInBounds_ne (by omega), Array.getElem?_setIfInBounds_ne (by omega), Array.getElem?_setIfInBounds_ne (by omega)]
theorem put3_at (cur : Array Value) (o : Nat) (a b c : Value) (h : o + 2 < cur.size) : (put3 cur o a b c)[o]? = some a ∧ (put3 cur o a b c)[o + 1]? = some b ∧ (put3 cur o a b c)[o + 2]? = some c := by
  unfold put3
  refine ⟨?_, ?_, ?_⟩
  · rw [Array.getElem?_setIfInBounds_ne (by omega), Array.getElem?_setIfInBounds_ne (by omega), Array.getElem?_setIfInBounds_self_of_lt (by omega)]
  · rw [Array.getElem?_setIfInBounds_ne (by omega), Array.getElem?_setIfInBounds_self_of_lt (by simp; omega)]
  · rw [Array.getElem?_setIfInBounds_self_of_lt (by simp; omega)]

/-- The first k tokens lie in the row. -/
def Laid3 (ts : List Tk) (k : Nat) (cur : Array Value) : Prop := ∀ i t, i < k → ts[i]? = some t → cur[i * 3]? = some (.int .i64 t.1) ∧ cur[i * 3 + 1]? = some (.int .i64 t.2.1) ∧ cur[i * 3 + 2]? = some (.string t.2.2)

theorem laid3_step {ts : List Tk} {k : Nat} {cur : Array Value} {t : Tk} (h : Laid3 ts k cur) (ht : ts[k]? = some t) (hs : k * 3 + 2 < cur.size) : Laid3 ts (k + 1) (put3 cur (k * 3) (.int .i64 t.1) (.int .i64 t.2.1) (.string t.2.2)) := by
  intro i u hi hu
  by_cases hik : i < k
  · obtain ⟨h1, h2, h3⟩ := h i u hik hu
    rw [put3_other _ _ _ _ _ _ (by omega), put3_other _ _ _ _ _ _ (by omega), put3_other _ _ _ _ _ _ (by omega)]
    exact ⟨h1, h2, h3⟩
  · obtain rfl : i = k := by omega
    rw [ht] at hu
    obtain rfl := Option.some.inj hu
    exact put3_at _ _ _ _ _ hs

set_option maxHeartbeats 1000000 in
theorem toTokenS_any (a : Option Addr) (c : Nat) (ts : List Tk) (w : World) (hr : RdO w a ts) (hm : ts.length ≤ 1048576) :
    Calls Tryd.prog 27 #[.slice a ts.length c] w fun e w' => e = .returned (.slice (some ⟨w.heap.size, 0, none⟩) ts.length ts.length) ∧ RdO w' (some ⟨w.heap.size, 0, none⟩) ts ∧ Below w.heap.size w w' := by
  obtain ⟨i0, hi, hz0, hz1, hz2⟩ := info_parts Tryd.infoTok
  have HE : Hid (RdO w a ts) := hr
  obtain ⟨len, hlen⟩ : ∃ len, ts.length = len := ⟨_, rfl⟩
  have HLN : Hid (ts.length = len) := hlen
  rw [hlen] at hm ⊢
  clear hlen hr
  go_enter Tryd.func27, Tryd.ntmps27
  go_wp2_with (at_make; refine wpList_make_full _ rfl _ _ 24 rfl w.heap.size 31 i0 _ 3 Tryd.underlying24 hi hz0 hz1 _ _ _ _ len rfl rfl rfl rfl (by rw [hz2]; omega) (by unfold maxLen; omega) (Nat.le_refl _) ?_)
  intro w1 hown hgrow
  have hbel : Below w.heap.size w w1 := (Below.refl _ _).grown hgrow (Nat.le_refl _) (fun _ h => by cases h)
  obtain ⟨cur0, hc0, hs0⟩ : ∃ cur, w1.heap[w.heap.size]? = some (.cells cur 31 (0, 0)) ∧ cur.size = len * 3 := by
    rcases hown.2 with ⟨h', _⟩ | ⟨g', cap', cur, h', _, hg, _, _, hs, _⟩
    · simp at h'
    · simp only [Value.slice.injEq, Option.some.injEq, Addr.mk.injEq, and_true, true_and] at h'
      obtain ⟨rfl, rfl⟩ := h'
      exact ⟨cur, hg, hs⟩
  clear hown hgrow
  go_wp2
  go_loopw [4] (fun i wr => ∃ (k : Nat) (cur : Array Value), k ≤ len ∧ i = .int .i64 k ∧ wr.heap[w.heap.size]? = some (.cells cur 31 (0, 0)) ∧ cur.size = len * 3 ∧ Below w.heap.size w wr ∧ Hid (Laid3 ts k cur)) (fun i _ => len - (intOf i).toNat)
  case atStart => exact ⟨0, cur0, Nat.zero_le _, rfl, hc0, hs0, hbel, fun i t hi => by omega⟩
  case round =>
    obtain ⟨k, cur, hk, rfl, hh, hcs, hb, HD⟩ := hrel
    have HH : Hid (wr.heap[w.heap.size]? = some (.cells cur 31 (0, 0))) := hh
    have HCS : Hid (cur.size = len * 3) := hcs
    have hwz : w.heap.size < wr.heap.size := (Array.getElem?_eq_some_iff.1 hh).1
    clear hc0 hs0 hbel hh hcs
    by_cases hkl : k < len
    · obtain ⟨t, ht⟩ : ∃ t, ts[k]? = some t := ⟨_, List.getElem?_eq_getElem (by rw [HLN.out]; exact hkl)⟩
      obtain ⟨b, o, rfl, f0, f1, f2⟩ := HE.out k t ht
      have f0 := cell_later hb f0
      have f1 := cell_later hb f1
      have f2 := cell_later hb f2
      have hC := toToken_any t.1 t.2.1 t.2.2 wr
      go_wp2_with fail
      refine hC.mono ?_
      clear hC
      rintro e w2 ⟨rfl, hb2⟩
      have hh2 : w2.heap[w.heap.size]? = some (.cells cur 31 (0, 0)) := (hb2.block _ hwz).trans HH.out
      have hc3 : ∀ j, j < 3 → ∃ v, w2.cell? ⟨w.heap.size, k * 3 + j, none⟩ = some v := fun j hj => by
        rw [cell_of_row w2 _ _ _ _ _ hh2]
        exact ⟨_, Array.getElem?_eq_getElem (by have := HCS.out; omega)⟩
      obtain ⟨v0, c0⟩ := hc3 0 (by omega)
      obtain ⟨v1, c1⟩ := hc3 1 (by omega)
      obtain ⟨v2, c2⟩ := hc3 2 (by omega)
      rw [Nat.add_zero] at c0
      have z0 : w2.frozen? ⟨w.heap.size, k * 3, none⟩ = false := frozen_of_row w2 _ _ _ _ hh2
      have z1 : w2.frozen? ⟨w.heap.size, k * 3 + 1, none⟩ = false := frozen_of_row w2 _ _ _ _ hh2
      have z2 : w2.frozen? ⟨w.heap.size, k * 3 + 2, none⟩ = false := frozen_of_row w2 _ _ _ _ hh2
      have hA1 := heap_setCell_same w2 w.heap.size (k * 3) cur 31 (.int .i64 t.1) hh2
      have hA2 := heap_setCell_same _ w.heap.size (k * 3 + 1) _ 31 (.int .i64 t.2.1) hA1
      have hA3 := heap_setCell_same _ w.heap.size (k * 3 + 2) _ 31 (.string t.2.2) hA2
      have hbs : Below w.heap.size w w2 := hb.trans (hb2.mono hb.size)
      have hb3 : Below w.heap.size w (((w2.setCell ⟨w.heap.size, k * 3, none⟩ (.int .i64 t.1)).setCell ⟨w.heap.size, k * 3 + 1, none⟩ (.int .i64 t.2.1)).setCell ⟨w.heap.size, k * 3 + 2, none⟩ (.string t.2.2)) := ((hbs.setCell (Nat.le_refl _) _).setCell (Nat.le_refl _) _).setCell (Nat.le_refl _) _
      have HD2 : Hid (Laid3 ts (k + 1) (put3 cur (k * 3) (.int .i64 t.1) (.int .i64 t.2.1) (.string t.2.2))) := laid3_step HD.out ht (by have := HCS.out; omega)
      have HA3 : Hid _ := hA3
      have hsz : (put3 cur (k * 3) (.int .i64 t.1) (.int .i64 t.2.1) (.string t.2.2)).size = len * 3 := by rw [put3_size]; exact HCS.out
      have HSZ : Hid _ := hsz
      clear hc3 hh2 f0 f1 f2 hA1 hA2 hA3 hb2 hb hbs HD hsz
      go_wp2
      go_roundw
      case rel => exact ⟨k + 1, _, by omega, by go_num, HA3.out, HSZ.out, hb3, HD2⟩
      case measure => simp [intOf]; omega
    · have HR : Hid (RdO wr (some ⟨w.heap.size, 0, none⟩) ts) := fun i t ht => by
        obtain ⟨h1, h2, h3⟩ := HD.out i t (by have := (List.getElem?_eq_some_iff.1 ht).1; have := HLN.out; omega) ht
        refine ⟨w.heap.size, 0, rfl, ?_, ?_, ?_⟩
        · rw [cell_of_row wr _ _ _ _ _ HH.out, Nat.zero_add]; exact h1
        · rw [cell_of_row wr _ _ _ _ _ HH.out, Nat.zero_add]; exact h2
        · rw [cell_of_row wr _ _ _ _ _ HH.out, Nat.zero_add]; exact h3
      go_wp2
      go_ret
      exact ⟨rfl, HR.out, hb⟩

end Go.Proofs.YtickaplokjdijaaDoor
