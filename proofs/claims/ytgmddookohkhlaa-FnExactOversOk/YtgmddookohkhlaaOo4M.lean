/- Each overseer but the first is the kid of just one, that stands ahead: the program's. -/
import Derived.Test.YtgmddookohkhlaaOo3M
import Derived.Test.YtgmddookohkhlaaKx2M
namespace Go.Proofs.Ytgmddookohkhlaa
open Go.RowKit
set_option linter.unusedVariables false

/-- How many times each of the first n numbers stands there. -/
def cnts (n : Nat) (S : List Int) : List Int := (List.range n).map (fun j : Nat => ((S.count (j : Int) : Nat) : Int))
theorem cnts_len (n : Nat) (S : List Int) : (cnts n S).length = n := by simp [cnts]
theorem cnts_at {n : Nat} {S : List Int} {j : Nat} (h : j < n) : (cnts n S)[j]? = some ((S.count (j : Int) : Nat) : Int) := by
  unfold cnts
  rw [List.getElem?_map, List.getElem?_range h]
  rfl
theorem cnts_out {n : Nat} {S : List Int} {x : Int} (h : x < 0) : cnts n (S ++ [x]) = cnts n S := by
  unfold cnts
  apply List.map_congr_left
  intro j _
  rw [cnt_no]
  omega
theorem cnts_set {n : Nat} {S : List Int} {j : Nat} (h : j < n) : (cnts n S).set j (((S.count (j : Int) : Nat) : Int) + 1) = cnts n (S ++ [(j : Int)]) := by
  apply List.ext_getElem?
  intro i
  by_cases hij : i = j
  · subst hij
    rw [List.getElem?_set_self (by rw [cnts_len]; exact h), cnts_at h, cnt_yes]
    simp
  · rw [List.getElem?_set_ne (fun e => hij e.symm)]
    by_cases hin : i < n
    · rw [cnts_at hin, cnts_at hin, cnt_no]
      omega
    · rw [List.getElem?_eq_none (by rw [cnts_len]; omega), List.getElem?_eq_none (by rw [cnts_len]; omega)]

/-- A row of numbers, whole, in a block. -/
def NRow (w : World) (g : Nat) (l : List Int) : Prop := w.heap[g]? = some (.cells (l.map (Value.int .i64)).toArray 3 (0, 0))
theorem NRow.at {w : World} {g : Nat} {l : List Int} (h : NRow w g l) {i : Nat} {x : Int} (hx : l[i]? = some x) : w.cell? ⟨g, i, none⟩ = some (.int .i64 x) := by
  rw [cell_of_row w _ _ _ _ _ h]
  simp [hx]
theorem NRow.froz {w : World} {g : Nat} {l : List Int} (h : NRow w g l) (i : Nat) : w.frozen? ⟨g, i, none⟩ = false := frozen_of_row w _ _ _ _ h
theorem NRow.set {w : World} {g : Nat} {l : List Int} (h : NRow w g l) {i : Nat} (hi : i < l.length) (x : Int) : NRow (w.setCell ⟨g, i, none⟩ (.int .i64 x)) g (l.set i x) := by
  unfold NRow
  rw [heap_setCell_same w g i _ _ (.int .i64 x) h, List.map_set]
  simp
theorem NRow.later {w w' : World} {g : Nat} {l : List Int} (h : NRow w g l) (hb : Below w.heap.size w w') : NRow w' g l := (hb.block _ (lt_row h)).trans h
theorem NRow.row {w : World} {g m c : Nat} {l : List Int} (h : NRow w g l) (o : Nat) (hm : (l.drop o).length = m) : RowOf 1 InR w (.slice (some ⟨g, o, none⟩) m c) (l.drop o) := by
  refine ⟨_, c, by rw [hm], fun i x hx => ⟨g, o, [.int .i64 x], rfl, rfl, fun j u hu => ?_, rfl⟩⟩
  have hj : j = 0 := by have := (List.getElem?_eq_some_iff.1 hu).1; simp at this; omega
  subst hj
  obtain rfl : u = .int .i64 x := by simpa using hu.symm
  rw [Nat.mul_one, Nat.add_zero]
  refine h.at ?_
  rw [List.getElem?_drop] at hx
  exact hx

theorem enters_many : ∀ args w, (callFunc 64 args).run Try.prog w = .ok (.enter 64 args) w := enters_of Try.func64 (by kernel_rfl) rfl
theorem many_any : Toldint 64 (fun p => p ≠ 1) := by
  intro p w hp
  show Calls Try.prog _ _ _ fun e w' => BRes (p ≠ 1) w e w'
  obtain ⟨PP, hPP⟩ : ∃ P, (p ≠ 1) = P := ⟨_, rfl⟩
  have HPP : Hid ((p ≠ 1) = PP) := hPP
  rw [hPP]
  clear hPP
  by_cases h : p = 1
  · have HP : Hid (¬ PP) := by rw [← HPP.out]; exact fun e => e h
    have hb : (p != 1) = false := by simp [h]
    clear h
    go_enter Try.func64, Try.ntmps64
    go_wp2_with fail
    go_ret
    exact bres_no HP.out (Below.refl _ _)
  · have HP : Hid PP := by rw [← HPP.out]; exact h
    have hb : (p != 1) = true := by simp [h]
    clear h
    go_enter Try.func64, Try.ntmps64
    go_wp2_with fail
    go_ret
    exact bres_yes HP.out (Below.refl _ _)

set_option maxRecDepth 100000 in
set_option maxHeartbeats 4000000 in
theorem subsFit_any (d : Nat) (a : Option Addr) (n c : Nat) (l : List (DOver d)) (w : World) (hr : RowOf 7 (OverR d) w (.slice a n c) l) (hl : l.length = n) (hn : 1 ≤ n ∧ n ≤ 8) (hk : (oSubs l).length ≤ 1048576) (hs : ∀ o ∈ l, ∀ k ∈ o.Kids, k.Sub = -1 ∨ 0 ≤ k.Sub) :
    Calls Try.prog 41 #[.slice a n c] w fun e w' => BRes (∀ (i : Nat) (o : DOver d), l[i]? = some o → (0 < i → (oSubs l).count (i : Int) = 1) ∧ RangeP l.length i o.Kids) w e w' := by
  have HR : Hid (RowOf 7 (OverR d) w (.slice a n c) l ∧ l.length = n ∧ (oSubs l).length ≤ 1048576 ∧ ∀ o ∈ l, ∀ k ∈ o.Kids, k.Sub = -1 ∨ 0 ≤ k.Sub) := ⟨hr, hl, hk, hs⟩
  obtain ⟨PP, hPP⟩ : ∃ P : Prop, (∀ (i : Nat) (o : DOver d), l[i]? = some o → (0 < i → (oSubs l).count (i : Int) = 1) ∧ RangeP l.length i o.Kids) = P := ⟨_, rfl⟩
  have HPP : Hid ((∀ (i : Nat) (o : DOver d), l[i]? = some o → (0 < i → (oSubs l).count (i : Int) = 1) ∧ RangeP l.length i o.Kids) = PP) := hPP
  rw [hPP]
  have hn1 : n ≤ 8 := hn.2
  have hn0 : 1 ≤ n := hn.1
  have hmf : ∀ (fn : Fn) (first cap : Array Value) (w : World), (Instr.makeFunc fn first cap).run Try.prog w = .ok (.func fn first cap) w := fun _ _ _ _ => rfl
  obtain ⟨i0, hi, hz0, hz1, hz2⟩ := info_parts Try.infoInt
  clear hr hl hk hs hPP hn
  go_enter Try.func41, Try.ntmps41
  go_wp2_with (at_make; refine wpList_make_full _ rfl _ _ 23 rfl w.heap.size 3 i0 (.int .i64 0) 1 Try.underlying23 hi hz0 hz1 _ _ _ _ n rfl rfl rfl rfl ?c1 ?c2 ?c3 ?_)
  case c1 => rw [hz2]; omega
  case c2 => unfold maxLen; omega
  case c3 => exact Nat.le_refl _
  intro w1 hown hgrow
  rw [toList_madeCells_one] at hown
  have hbel : Below w.heap.size w w1 := (Below.refl _ _).grown hgrow (Nat.le_refl _) (fun _ h => by cases h)
  have hrow : NRow w1 w.heap.size (cnts n (oSubs (l.take 0))) := by
    rcases hown.2 with ⟨h', _⟩ | ⟨g', cap', cur, h', _, hg, _, _, hs, ht⟩
    · simp at h'
    · simp only [Value.slice.injEq, Option.some.injEq, Addr.mk.injEq, and_true, true_and] at h'
      obtain ⟨rfl, rfl⟩ := h'
      rw [List.take_of_length_le (by simp; omega)] at ht
      unfold NRow
      rw [hg, show cur = (List.replicate n (Value.int .i64 0)).toArray from by rw [← ht]]
      congr 3
      apply List.ext_getElem?
      intro i
      by_cases h : i < n
      · rw [List.getElem?_replicate, if_pos h, List.getElem?_map, cnts_at h]
        simp [oSubs]
      · rw [List.getElem?_eq_none (by simp; omega), List.getElem?_eq_none (by rw [List.length_map, cnts_len]; omega)]
  have H0 : Hid (NRow w1 w.heap.size (cnts n (oSubs (l.take 0))) ∧ Below w.heap.size w w1) := ⟨hrow, hbel⟩
  clear hown hgrow hbel hrow
  have HRG : Hid (∀ (i k : Nat) (o : DOver d) (u : DKid d), l[i]? = some o → o.Kids[k]? = some u → 0 ≤ u.Sub → ¬ ((i : Int) + 1 ≤ u.Sub ∧ u.Sub ≤ (n : Int) - 1) → ¬ PP) := fun i k o u hi hu h0 hx => by
    rw [← HPP.out]
    intro h
    have := (h i o hi).2 k u hu h0
    rw [HR.out.2.1] at this
    exact hx this
  go_wp2_with fail
  go_loopw [13] (fun x wr => ∃ i : Nat, i ≤ n ∧ x = .int .i64 (i : Int) ∧ Hid (NRow wr w.heap.size (cnts n (oSubs (l.take i))) ∧ Below w.heap.size w wr) ∧ Hid (∀ (j : Nat) (o : DOver d), j < i → l[j]? = some o → RangeP l.length j o.Kids)) (fun x _ => n - (intOf x).toNat)
  case atStart => exact ⟨0, Nat.zero_le _, rfl, H0.out, fun j o hj => absurd hj (Nat.not_lt_zero _)⟩
  case round =>
    obtain ⟨i, hi', rfl, HS, HN⟩ := hrel
    clear H0
    by_cases hin : i < n
    · obtain ⟨t, ht⟩ : ∃ t, l[i]? = some t := ⟨_, List.getElem?_eq_getElem (by have := HR.out.2.1; omega)⟩
      have hin' : (i : Int) < (n : Int) := by omega
      have HBW : Hid (Below w.heap.size w wr) := HS.out.2
      obtain ⟨b, o, a3, c3, a4, c4, a5, c5, e8, f0, f1, f2, f3, f4, f5, f6, h3, h4, h5⟩ := Over_at HR.out.1 i t ht
      obtain ⟨m, hm⟩ : ∃ m, t.Kids.length = m := ⟨_, rfl⟩
      rw [hm] at f3 h3
      have HT : Hid (l[i]? = some t ∧ t.Kids.length = m ∧ (oSubs (l.take i)).length + m ≤ 1048576 ∧ ∀ k ∈ t.Kids, k.Sub = -1 ∨ 0 ≤ k.Sub) := ⟨ht, hm, by
        have := oSubs_part l (i + 1)
        rw [oSubs_take ht, List.length_append, kSubs_len, hm] at this
        have := HR.out.2.2.1
        omega, HR.out.2.2.2 t (List.mem_of_getElem? ht)⟩
      have hm1 : m ≤ 1048576 := by have := HT.out.2.2.1; omega
      have HK : Hid (RowOf 7 (KidR d) w (.slice a3 m c3) t.Kids) := h3
      replace f0 := cell_later HBW.out f0
      replace f1 := cell_later HBW.out f1
      replace f2 := cell_later HBW.out f2
      replace f3 := cell_later HBW.out f3
      replace f4 := cell_later HBW.out f4
      replace f5 := cell_later HBW.out f5
      replace f6 := cell_later HBW.out f6
      obtain ⟨W1, hW1⟩ : ∃ W, W = wr.alloc (.cells #[.int .i64 t.Way, .int .i64 t.MaxR, .int .i64 t.MaxT, .slice a3 m c3, .slice a4 t.Pids.length c4, .slice a5 t.Times.length c5, .bool t.Down] 30) := ⟨_, rfl⟩
      have hA1 : Below wr.heap.size wr W1 := by rw [hW1]; exact (Below.refl _ _).alloc (Nat.le_refl _) _
      have HS1 : Hid (NRow W1 w.heap.size (cnts n (oSubs (l.take i))) ∧ Below w.heap.size w W1) := ⟨HS.out.1.later hA1, HBW.out.trans (hA1.mono HBW.out.size)⟩
      subst e8
      clear ht hm h3 h4 h5 hA1
      go_wp2_with fail
      rw [← hW1]
      clear hW1 f0 f1 f2 f3 f4 f5 f6
      go_loopw [21] (fun x wv => ∃ k : Nat, k ≤ m ∧ x = .int .i64 (k : Int) ∧ Hid (NRow wv w.heap.size (cnts n (oSubs (l.take i) ++ kSubs (t.Kids.take k))) ∧ Below w.heap.size w wv) ∧ Hid (∀ (j : Nat) (u : DKid d), j < k → t.Kids[j]? = some u → 0 ≤ u.Sub → (i : Int) + 1 ≤ u.Sub ∧ u.Sub ≤ (n : Int) - 1)) (fun x _ => m - (intOf x).toNat)
      case atStart => exact ⟨0, Nat.zero_le _, rfl, by show _ ∧ _; simpa [kSubs] using HS1.out, fun j u hj => absurd hj (Nat.not_lt_zero _)⟩
      case round =>
        obtain ⟨k, hk, rfl, HI, HM⟩ := hrel
        by_cases hkm : k < m
        · obtain ⟨u, hu⟩ : ∃ u, t.Kids[k]? = some u := ⟨_, List.getElem?_eq_getElem (by have := HT.out.2.1; omega)⟩
          obtain ⟨b', o', i2, i3, s4, a9, l9, c9, e9, q0, q1, q2, q3, q4, q5, q6, qT⟩ := Kid_at (HK.out.later (KidR.lasts d) HI.out.2) k u hu
          have hkm' : (k : Int) < (m : Int) := by omega
          have HU : Hid (t.Kids[k]? = some u) := hu
          have hsub := HT.out.2.2.2 u (List.mem_of_getElem? hu)
          obtain ⟨s, hs⟩ : ∃ s, u.Sub = s := ⟨_, rfl⟩
          have HSS : Hid (u.Sub = s) := hs
          rw [hs] at q6 hsub
          subst e9
          clear hu qT hs
          obtain ⟨X, hX⟩ : ∃ X, X = wr.alloc (.cells #[.string u.Name, .string u.Mod, .int .i64 i2, .int .i64 i3, .string s4, .slice a9 l9 c9, .int .i64 s] 55) := ⟨_, rfl⟩
          have hAX : Below wr.heap.size wr X := by rw [hX]; exact (Below.refl _ _).alloc (Nat.le_refl _) _
          have hws : w.heap.size ≤ wr.heap.size := HI.out.2.size
          have HIX : Hid (NRow X w.heap.size (cnts n (oSubs (l.take i) ++ kSubs (t.Kids.take k))) ∧ Below w.heap.size w X) := ⟨HI.out.1.later hAX, HI.out.2.trans (hAX.mono hws)⟩
          have HX : Hid (X = _) := hX
          by_cases hs1 : s = -1
          · have hsb : (s == -1) = true := by simp [hs1]
            have HY : Hid (NRow X w.heap.size (cnts n (oSubs (l.take i) ++ kSubs (t.Kids.take (k + 1)))) ∧ Below w.heap.size w X) := by
              show _ ∧ _
              rw [kSubs_take HU.out, ← List.append_assoc, HSS.out, cnts_out (by omega)]
              exact HIX.out
            have HZ : Hid (∀ (j : Nat) (y : DKid d), j < k + 1 → t.Kids[j]? = some y → 0 ≤ y.Sub → (i : Int) + 1 ≤ y.Sub ∧ y.Sub ≤ (n : Int) - 1) := fun j y hj hy h0 => by
              rcases Nat.lt_or_ge j k with q | q
              · exact HM.out j y q hy h0
              · obtain rfl : j = k := by omega
                have := HU.out.symm.trans hy
                cases this
                rw [HSS.out, hs1] at h0
                omega
            rw [hX] at HY
            clear HI HM HIX hAX hX hs1 hsub
            go_wp2_with fail
            go_roundw
            case rel => exact ⟨k + 1, by omega, by go_num, HY, HZ⟩
            case measure => simp [intOf]; omega
          have hsb : (s == -1) = false := by simp [hs1]
          have hs0 : 0 ≤ s := by omega
          obtain ⟨q, hq⟩ : ∃ q : Nat, s = (q : Int) := ⟨s.toNat, by omega⟩
          subst hq
          have HBX : Hid (Below w.heap.size w X) := HIX.out.2
          rw [hX] at HBX
          by_cases hsi : (q : Int) ≤ (i : Int)
          · have HF : Hid (¬ PP) := HRG.out i k t u HT.out.1 HU.out (by rw [HSS.out]; exact hs0) (by rw [HSS.out]; omega)
            clear HI HM HIX hAX hX hs1 hsub
            go_wp2_with fail
            go_ret
            exact bres_no HF.out HBX.out
          by_cases hsn : (n : Int) ≤ (q : Int)
          · have HF : Hid (¬ PP) := HRG.out i k t u HT.out.1 HU.out (by rw [HSS.out]; exact hs0) (by rw [HSS.out]; omega)
            clear HI HM HIX hAX hX hs1 hsub
            go_wp2_with fail
            go_ret
            exact bres_no HF.out HBX.out
          have hqn : q < n := by omega
          have hqn' : (q : Int) < (n : Int) := by omega
          obtain ⟨C, hC⟩ : ∃ C, (oSubs (l.take i) ++ kSubs (t.Kids.take k)).count (q : Int) = C := ⟨_, rfl⟩
          have hCm : C ≤ 1048576 := by
            rw [← hC]
            refine Nat.le_trans (cnt_le _ _) ?_
            rw [List.length_append, kSubs_len, List.length_take]
            have := HT.out.2.2.1
            omega
          have hat := cnts_at (S := oSubs (l.take i) ++ kSubs (t.Kids.take k)) hqn
          rw [hC] at hat
          have z0 := HI.out.1.at hat
          have z1 := HI.out.1.froz q
          have hgl : w.heap.size < wr.heap.size := lt_row HI.out.1
          have HY : Hid (NRow ((wr.setCell ⟨w.heap.size, q, none⟩ (.int .i64 ((C : Int) + 1))).alloc (.cells #[.string u.Name, .string u.Mod, .int .i64 i2, .int .i64 i3, .string s4, .slice a9 l9 c9, .int .i64 (q : Int)] 55)) w.heap.size (cnts n (oSubs (l.take i) ++ kSubs (t.Kids.take (k + 1)))) ∧ Below w.heap.size w ((wr.setCell ⟨w.heap.size, q, none⟩ (.int .i64 ((C : Int) + 1))).alloc (.cells #[.string u.Name, .string u.Mod, .int .i64 i2, .int .i64 i3, .string s4, .slice a9 l9 c9, .int .i64 (q : Int)] 55))) := by
            have e := cnts_set (S := oSubs (l.take i) ++ kSubs (t.Kids.take k)) hqn
            rw [hC] at e
            have h1 := HI.out.1.set (i := q) (by rw [cnts_len]; exact hqn) ((C : Int) + 1)
            rw [e] at h1
            have h2 : Below w.heap.size w (wr.setCell ⟨w.heap.size, q, none⟩ (.int .i64 ((C : Int) + 1))) := HI.out.2.trans (setL_below [.int .i64 ((C : Int) + 1)] _ _ _ _ (Nat.le_refl _))
            refine ⟨?_, h2.alloc h2.size _⟩
            rw [kSubs_take HU.out, ← List.append_assoc, HSS.out]
            exact h1.later ((Below.refl _ _).alloc (Nat.le_refl _) _)
          have HZ : Hid (∀ (j : Nat) (y : DKid d), j < k + 1 → t.Kids[j]? = some y → 0 ≤ y.Sub → (i : Int) + 1 ≤ y.Sub ∧ y.Sub ≤ (n : Int) - 1) := fun j y hj hy h0 => by
            rcases Nat.lt_or_ge j k with h | h
            · exact HM.out j y h hy h0
            · obtain rfl : j = k := by omega
              have := HU.out.symm.trans hy
              cases this
              rw [HSS.out]
              omega
          clear HI HM HIX hAX hX hs1 hsub hC hat
          go_wp2_with fail
          go_roundw
          case rel => exact ⟨k + 1, by omega, by go_num, HY, HZ⟩
          case measure => simp [intOf]; omega
        · obtain rfl : k = m := by omega
          have hkl : ¬ (k : Int) < (k : Int) := by omega
          have HY : Hid (NRow wr w.heap.size (cnts n (oSubs (l.take (i + 1)))) ∧ Below w.heap.size w wr) := by
            show _ ∧ _
            have := HI.out
            have e : t.Kids.take k = t.Kids := List.take_of_length_le (by rw [HT.out.2.1]; omega)
            rw [e] at this
            rw [oSubs_take HT.out.1]
            exact this
          have HZ : Hid (∀ (j : Nat) (o : DOver d), j < i + 1 → l[j]? = some o → RangeP l.length j o.Kids) := fun j y hj hy => by
            rcases Nat.lt_or_ge j i with q | q
            · exact HN.out j y q hy
            · obtain rfl : j = i := by omega
              have := HT.out.1.symm.trans hy
              cases this
              intro k' u hu h0
              rw [HR.out.2.1]
              exact HM.out k' u (by have := (List.getElem?_eq_some_iff.1 hu).1; have := HT.out.2.1; omega) hu h0
          clear HI HM
          go_wp2_with fail
          go_roundw
          case rel => exact ⟨i + 1, by omega, by go_num, HY, HZ⟩
          case measure => simp [intOf]; omega
    · obtain rfl : i = n := by omega
      have hil : ¬ (i : Int) < (i : Int) := by omega
      have HAL : Hid (∀ (j : Nat) (o : DOver d), l[j]? = some o → RangeP l.length j o.Kids) := fun j o ho => HN.out j o (by have := (List.getElem?_eq_some_iff.1 ho).1; have := HR.out.2.1; omega) ho
      have HS1 : Hid (NRow wr w.heap.size (cnts i (oSubs l)) ∧ Below w.heap.size w wr) := by
        have := HS.out
        rw [List.take_of_length_le (by rw [HR.out.2.1]; omega)] at this
        exact this
      clear HN HS
      by_cases h1 : i = 1
      · have HF : Hid PP := by
          rw [← HPP.out]
          exact fun j o ho => ⟨fun hj => by have := (List.getElem?_eq_some_iff.1 ho).1; have := HR.out.2.1; omega, HAL.out j o ho⟩
        have hC := containsint_any 64 (fun p => p ≠ 1) enters_many many_any (some ⟨w.heap.size, 0, none⟩) 0 0 [] wr ⟨_, _, rfl, fun i x h => by simp at h⟩ ⟨by simp, fun x h => by cases h⟩ rfl (by omega)
        obtain ⟨RR, hRR⟩ : ∃ Q : Prop, (∃ (i : Nat) (p : Int), ([] : List Int)[i]? = some p ∧ p ≠ 1) = Q := ⟨_, rfl⟩
        have HNR : Hid (¬ RR) := by rw [← hRR]; rintro ⟨i, p, h, _⟩; simp at h
        rw [hRR] at hC
        clear hRR
        subst h1
        go_wp2_with fail
        refine hC.mono ?_
        clear hC
        rintro e V ⟨b, rfl, hb, hB⟩
        obtain rfl : b = false := Bool.eq_false_iff.2 fun h => HNR.out (hb.1 h)
        have HBV : Hid (Below w.heap.size w V) := HS1.out.2.trans (hB.mono HS1.out.2.size)
        clear hb hB
        go_wp2_with fail
        go_ret
        exact bres_yes HF.out HBV.out
      · have hdl : ((cnts i (oSubs l)).drop 1).length = i - 1 := by rw [List.length_drop, cnts_len]
        have hC := containsint_any 64 (fun p => p ≠ 1) enters_many many_any (some ⟨w.heap.size, 1, none⟩) (i - 1) (i - 1) ((cnts i (oSubs l)).drop 1) wr (HS1.out.1.row 1 hdl) ⟨by rw [hdl]; omega, fun x hx => by
          obtain ⟨j, hj⟩ := List.mem_iff_getElem?.1 hx
          have hj' : j < i - 1 := by have := (List.getElem?_eq_some_iff.1 hj).1; omega
          rw [List.getElem?_drop, cnts_at (by omega)] at hj
          cases hj
          have := cnt_le (oSubs l) ((1 + j : Nat) : Int)
          have := HR.out.2.2.1
          constructor <;> omega⟩ hdl (by omega)
        obtain ⟨RR, hRR⟩ : ∃ Q : Prop, (∃ (k : Nat) (p : Int), ((cnts i (oSubs l)).drop 1)[k]? = some p ∧ p ≠ 1) = Q := ⟨_, rfl⟩
        have HNR : Hid (¬ RR ↔ PP) := by
          rw [← hRR, ← HPP.out]
          constructor
          · intro h j o ho
            refine ⟨fun hj => ?_, HAL.out j o ho⟩
            have hji : j < i := by have := (List.getElem?_eq_some_iff.1 ho).1; have := HR.out.2.1; omega
            refine Classical.byContradiction fun hc => h ⟨j - 1, ((oSubs l).count (j : Int) : Nat), ?_, ?_⟩
            · rw [List.getElem?_drop, show 1 + (j - 1) = j by omega, cnts_at hji]
            · omega
          · rintro h ⟨k, p, hk, hp⟩
            have hk' : k < i - 1 := by have := (List.getElem?_eq_some_iff.1 hk).1; omega
            rw [List.getElem?_drop, cnts_at (by omega)] at hk
            cases hk
            obtain ⟨o, ho⟩ : ∃ o, l[1 + k]? = some o := ⟨_, List.getElem?_eq_getElem (by have := HR.out.2.1; omega)⟩
            have := (h (1 + k) o ho).1 (by omega)
            omega
        rw [hRR] at hC
        have h1' : ¬ (i : Int) = 1 := by omega
        clear hRR hdl
        go_wp2_with fail
        refine hC.mono ?_
        clear hC
        rintro e V ⟨b, rfl, hb, hB⟩
        have HBV : Hid (Below w.heap.size w V) := HS1.out.2.trans (hB.mono HS1.out.2.size)
        have HF : Hid ((!b) = true ↔ PP) := by
          show (!b) = true ↔ PP
          rw [← HNR.out, ← hb]
          cases b <;> simp
        clear hb hB
        go_wp2_with fail
        go_ret
        exact ⟨_, rfl, HF.out, HBV.out⟩

end Go.Proofs.Ytgmddookohkhlaa
