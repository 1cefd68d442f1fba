/- An overseer that is right: the model's. -/
import Derived.Test.YtgmddookohkhlaaVp1M
import Derived.Test.YtgmddookohkhlaaDtOverM
import Derived.Test.YtgmddookohkhlaaVp0M
import Derived.Deep.RegionHeld3
namespace Go.Proofs.Ytgmddookohkhlaa
open Go.RowKit
set_option linter.unusedVariables false

def SortedI (l : List Int) : Prop := ∀ (i : Nat) (a b : Int), l[i]? = some a → l[i + 1]? = some b → a ≤ b
def pOverOk (d : Nat) (x : DOver d) : Prop := (inI x.Way 1 3 = true ∧ inI x.MaxR 0 20 = true ∧ inI x.MaxT 1 1000 = true ∧ inI (x.Kids.length : Int) 1 8 = true ∧ x.Pids.length = x.Kids.length ∧ (x.Times.length : Int) ≤ x.MaxR) ∧ ((∀ (i : Nat) (k : DKid d), x.Kids[i]? = some k → KidP d k) ∧ ∀ (i : Nat) (p : Int), x.Pids[i]? = some p → 0 ≤ p) ∧ SortedI x.Times

theorem row_int {w : World} {a : Option Addr} {n c : Nat} {l : List Int} (h : RowOf 1 InR w (.slice a n c) l) (i : Nat) (x : Int) (hx : l[i]? = some x) : ∃ b o, a = some ⟨b, o, none⟩ ∧ w.cell? ⟨b, o + i, none⟩ = some (.int .i64 x) := by
  obtain ⟨a', c', e, h1⟩ := row_tellI h
  cases e
  exact h1 i x hx

set_option maxRecDepth 100000 in
set_option maxHeartbeats 4000000 in
theorem specOverOk_any (d : Nat) (vs : List Value) (x : DOver d) (w : World) (hr : OverR d w vs x) (hw : WfOver d x) (hz : szOverD d x ≤ 1048576) :
    Calls Try.prog 8 #[.agg vs.toArray] w fun e w' => BRes (pOverOk d x) w e w' := by
  have hz' : szRow (szKidD d) x.Kids + (szRow szI x.Pids + szRow szI x.Times) ≤ 1048576 := hz
  have l1 := szRow_len (szKidD d) x.Kids
  have l2 := szRow_len szI x.Pids
  have l3 := szRow_len szI x.Times
  obtain ⟨v3, v4, v5, rfl, h3, h4, h5⟩ := hr
  obtain ⟨a3, c3, rfl⟩ := h3.slice
  obtain ⟨a4, c4, rfl⟩ := h4.slice
  obtain ⟨a5, c5, rfl⟩ := h5.slice
  have HR3 : Hid (RowOf 7 (KidR d) w (.slice a3 x.Kids.length c3) x.Kids) := h3
  have HR4 : Hid (RowOf 1 InR w (.slice a4 x.Pids.length c4) x.Pids) := h4
  have HR5 : Hid (RowOf 1 InR w (.slice a5 x.Times.length c5) x.Times) := h5
  have HWK : Hid (WfRow (WfKid d) x.Kids) := hw.2.2.2.1
  obtain ⟨n3, hn3⟩ : ∃ l, x.Kids.length = l := ⟨_, rfl⟩
  obtain ⟨n4, hn4⟩ : ∃ l, x.Pids.length = l := ⟨_, rfl⟩
  obtain ⟨n5, hn5⟩ : ∃ l, x.Times.length = l := ⟨_, rfl⟩
  have HL : Hid (x.Kids.length = n3 ∧ x.Pids.length = n4 ∧ x.Times.length = n5) := ⟨hn3, hn4, hn5⟩
  obtain ⟨PP, hPP⟩ : ∃ P : Prop, pOverOk d x = P := ⟨_, rfl⟩
  have HPP : Hid (((inI x.Way 1 3 = true ∧ inI x.MaxR 0 20 = true ∧ inI x.MaxT 1 1000 = true ∧ inI (n3 : Int) 1 8 = true ∧ n4 = n3 ∧ (n5 : Int) ≤ x.MaxR) ∧ ((∀ (i : Nat) (k : DKid d), x.Kids[i]? = some k → KidP d k) ∧ ∀ (i : Nat) (p : Int), x.Pids[i]? = some p → 0 ≤ p) ∧ SortedI x.Times) = PP) := by rw [← hn3, ← hn4, ← hn5]; exact hPP
  rw [hn3] at HR3 l1 ⊢
  rw [hn4] at HR4 l2 ⊢
  rw [hn5] at HR5 l3 ⊢
  rw [hPP]
  have hb3 : n3 ≤ 1048576 := by omega
  have hb4 : n4 ≤ 1048576 := by omega
  have hb5 : n5 ≤ 1048576 := by omega
  obtain ⟨W, hW⟩ : ∃ W, W = w.alloc (.cells #[.int .i64 x.Way, .int .i64 x.MaxR, .int .i64 x.MaxT, .slice a3 n3 c3, .slice a4 n4 c4, .slice a5 n5 c5, .bool x.Down] 30) := ⟨_, rfl⟩
  have hA : Below w.heap.size w W := by rw [hW]; exact (Below.refl _ _).alloc (Nat.le_refl _) _
  have n1 : W.heap[w.heap.size]? = some (.cells #[.int .i64 x.Way, .int .i64 x.MaxR, .int .i64 x.MaxT, .slice a3 n3 c3, .slice a4 n4 c4, .slice a5 n5 c5, .bool x.Down] 30 (0, 0)) := by rw [hW]; exact heap_alloc_new w _
  have HB : Hid (W.heap[w.heap.size]? = _) := n1
  have HA : Hid (Below w.heap.size w W) := hA
  have HW : Hid (W = _) := hW
  rw [hW] at hA
  have HAA : Hid (Below w.heap.size w (w.alloc _)) := hA
  have hMR : I64 x.MaxR := hw.2.1
  clear hz hz' l1 l2 l3 h3 h4 h5 hn3 hn4 hn5 hPP hW n1 hA hw
  unfold I64 at hMR
  go_enter Try.func8, Try.ntmps8
  go_wp2_with fail
  refine (inI_any x.Way 1 3 _).mono ?_
  rintro e V0 ⟨rfl, hv0⟩
  subst hv0
  obtain ⟨bb0, hbb0⟩ : ∃ b, inI x.Way 1 3 = b := ⟨_, rfl⟩
  have HB0 : Hid (inI x.Way 1 3 = bb0) := hbb0
  rw [hbb0]
  clear hbb0
  cases bb0 with
  | false =>
    have HF : Hid (¬ PP) := by rw [← HPP.out]; exact fun h => by have := HB0.out.symm.trans h.1.1; cases this
    go_wp2_with fail
    go_ret
    exact bres_no HF.out HAA.out
  | true =>
  have HI0 : Hid (inI x.Way 1 3 = true) := HB0.out
  clear HB0
  go_wp2_with fail
  refine (inI_any x.MaxR 0 20 _).mono ?_
  rintro e V1 ⟨rfl, hv1⟩
  subst hv1
  obtain ⟨bb1, hbb1⟩ : ∃ b, inI x.MaxR 0 20 = b := ⟨_, rfl⟩
  have HB1 : Hid (inI x.MaxR 0 20 = bb1) := hbb1
  rw [hbb1]
  clear hbb1
  cases bb1 with
  | false =>
    have HF : Hid (¬ PP) := by rw [← HPP.out]; exact fun h => by have := HB1.out.symm.trans h.1.2.1; cases this
    go_wp2_with fail
    go_ret
    exact bres_no HF.out HAA.out
  | true =>
  have HI1 : Hid (inI x.MaxR 0 20 = true) := HB1.out
  clear HB1
  go_wp2_with fail
  refine (inI_any x.MaxT 1 1000 _).mono ?_
  rintro e V2 ⟨rfl, hv2⟩
  subst hv2
  obtain ⟨bb2, hbb2⟩ : ∃ b, inI x.MaxT 1 1000 = b := ⟨_, rfl⟩
  have HB2 : Hid (inI x.MaxT 1 1000 = bb2) := hbb2
  rw [hbb2]
  clear hbb2
  cases bb2 with
  | false =>
    have HF : Hid (¬ PP) := by rw [← HPP.out]; exact fun h => by have := HB2.out.symm.trans h.1.2.2.1; cases this
    go_wp2_with fail
    go_ret
    exact bres_no HF.out HAA.out
  | true =>
  have HI2 : Hid (inI x.MaxT 1 1000 = true) := HB2.out
  clear HB2
  go_wp2_with fail
  refine (inI_any (n3 : Int) 1 8 _).mono ?_
  rintro e V3 ⟨rfl, hv3⟩
  subst hv3
  obtain ⟨bb3, hbb3⟩ : ∃ b, inI (n3 : Int) 1 8 = b := ⟨_, rfl⟩
  have HB3 : Hid (inI (n3 : Int) 1 8 = bb3) := hbb3
  rw [hbb3]
  clear hbb3
  cases bb3 with
  | false =>
    have HF : Hid (¬ PP) := by rw [← HPP.out]; exact fun h => by have := HB3.out.symm.trans h.1.2.2.2.1; cases this
    go_wp2_with fail
    go_ret
    exact bres_no HF.out HAA.out
  | true =>
  have HI3 : Hid (inI (n3 : Int) 1 8 = true) := HB3.out
  clear HB3
  by_cases h43 : n4 = n3
  case neg =>
    have hne : ((n4 : Int) != (n3 : Int)) = true := by simp; omega
    have HF : Hid (¬ PP) := by rw [← HPP.out]; exact fun h => h43 h.1.2.2.2.2.1
    clear h43
    go_wp2_with fail
    go_ret
    exact bres_no HF.out HAA.out
  have hne : ((n4 : Int) != (n3 : Int)) = false := by simp; omega
  by_cases h5R : (n5 : Int) ≤ x.MaxR
  case neg =>
    have hgt : x.MaxR < (n5 : Int) := by omega
    have HF : Hid (¬ PP) := by rw [← HPP.out]; exact fun h => h5R h.1.2.2.2.2.2
    clear h43 h5R
    go_wp2_with fail
    go_ret
    exact bres_no HF.out HAA.out
  have hgt : ¬ x.MaxR < (n5 : Int) := by omega
  have HP1 : Hid (inI x.Way 1 3 = true ∧ inI x.MaxR 0 20 = true ∧ inI x.MaxT 1 1000 = true ∧ inI (n3 : Int) 1 8 = true ∧ n4 = n3 ∧ (n5 : Int) ≤ x.MaxR) := ⟨HI0.out, HI1.out, HI2.out, HI3.out, h43, h5R⟩
  subst h43
  clear h5R HI0 HI1 HI2 HI3
  go_wp2_with fail
  rw [← HW.out]
  go_loopw [3] (fun i wr => ∃ k : Nat, k ≤ n4 ∧ i = .int .i64 k ∧ Below W.heap.size W wr ∧ Hid ((∀ (j : Nat) (g : DKid d), j < k → x.Kids[j]? = some g → KidP d g) ∧ ∀ (j : Nat) (p : Int), j < k → x.Pids[j]? = some p → 0 ≤ p)) (fun i _ => n4 - (intOf i).toNat)
  case atStart => exact ⟨0, Nat.zero_le _, rfl, Below.refl _ _, fun j g hj => absurd hj (Nat.not_lt_zero _), fun j g hj => absurd hj (Nat.not_lt_zero _)⟩
  case round =>
    obtain ⟨k, hk, rfl, hbw, HN⟩ := hrel
    have HBX : Hid (Below W.heap.size W wr) := hbw
    have HBW : Hid (Below w.heap.size w wr) := HA.out.trans (hbw.mono HA.out.size)
    have hbx := (hbw.block _ (lt_row HB.out)).trans HB.out
    have d3 : wr.cell? ⟨w.heap.size, 3, none⟩ = some (.slice a3 n4 c3) := by rw [cell_of_row wr _ 3 _ _ _ hbx]; rfl
    clear hbw
    by_cases hkl : k < n4
    · obtain ⟨t, ht⟩ : ∃ t, x.Kids[k]? = some t := ⟨_, List.getElem?_eq_getElem (by have := HL.out.1; omega)⟩
      obtain ⟨p, hp⟩ : ∃ t, x.Pids[k]? = some t := ⟨_, List.getElem?_eq_getElem (by have := HL.out.2.1; omega)⟩
      obtain ⟨b, o, i2, i3, s4, a9, l9, c9, rfl, f0, f1, f2, f3, f4, f5, f6, hT⟩ := Kid_at (HR3.out.later (KidR.lasts d) HBW.out) k t ht
      have hkl' : (k : Int) < (n4 : Int) := by omega
      have HT : Hid (x.Kids[k]? = some t ∧ x.Pids[k]? = some p) := ⟨ht, hp⟩
      have hC := l14Kid_any d _ t wr ⟨_, _, _, _, rfl, hT⟩ (HWK.out.2 t (List.mem_of_getElem? ht))
      clear ht hp hbx hT
      go_wp2_with fail
      refine hC.mono ?_
      clear hC d3 f0 f1 f2 f3 f4 f5 f6
      rintro e V ⟨bb, rfl, hbb, hB⟩
      have HBV : Hid (Below W.heap.size W V ∧ Below w.heap.size w V) := ⟨HBX.out.trans (hB.mono HBX.out.size), HBW.out.trans (hB.mono HBW.out.size)⟩
      have HBB : Hid (bb = true ↔ KidP d t) := hbb
      clear hB hbb
      cases bb with
      | false =>
        have HF : Hid (¬ PP) := by rw [← HPP.out]; exact fun h => by have := HBB.out.2 (h.2.1.1 k t HT.out.1); cases this
        clear HN
        go_wp2_with fail
        go_ret
        exact bres_no HF.out HBV.out.2
      | true =>
        have hbx := (HBV.out.1.block _ (lt_row HB.out)).trans HB.out
        have d4 : V.cell? ⟨w.heap.size, 4, none⟩ = some (.slice a4 n4 c4) := by rw [cell_of_row V _ 4 _ _ _ hbx]; rfl
        obtain ⟨b', o', rfl, q0⟩ := row_int (HR4.out.later InR.lasts HBV.out.2) k p HT.out.2
        clear hbx
        by_cases hp0 : p < 0
        · have HF : Hid (¬ PP) := by rw [← HPP.out]; exact fun h => by have := h.2.1.2 k p HT.out.2; omega
          clear HN
          go_wp2_with fail
          go_ret
          exact bres_no HF.out HBV.out.2
        · have HF : Hid ((∀ (j : Nat) (g : DKid d), j < k + 1 → x.Kids[j]? = some g → KidP d g) ∧ ∀ (j : Nat) (p : Int), j < k + 1 → x.Pids[j]? = some p → 0 ≤ p) := by
            constructor
            · intro j g hj hg
              rcases Nat.lt_or_ge j k with u | u
              · exact HN.out.1 j g u hg
              · obtain rfl : j = k := by omega
                have := HT.out.1.symm.trans hg
                cases this
                exact HBB.out.1 (by simp)
            · intro j g hj hg
              rcases Nat.lt_or_ge j k with u | u
              · exact HN.out.2 j g u hg
              · obtain rfl : j = k := by omega
                have := HT.out.2.symm.trans hg
                cases this
                omega
          clear HN
          go_wp2_with fail
          go_roundw
          case rel => exact ⟨k + 1, by omega, by go_num, HBV.out.1, HF⟩
          case measure => simp [intOf]; omega
    · obtain rfl : k = n4 := by omega
      have hkl' : decide ((k : Int) < (k : Int)) = false := by simp
      have HAL : Hid ((∀ (j : Nat) (g : DKid d), x.Kids[j]? = some g → KidP d g) ∧ ∀ (j : Nat) (p : Int), x.Pids[j]? = some p → 0 ≤ p) :=
        ⟨fun j g hg => HN.out.1 j g (by have := (List.getElem?_eq_some_iff.1 hg).1; have := HL.out.1; omega) hg, fun j g hg => HN.out.2 j g (by have := (List.getElem?_eq_some_iff.1 hg).1; have := HL.out.2.1; omega) hg⟩
      have HBY : Hid (Below W.heap.size W wr) := HBX.out
      clear HN hbx HBX HBW
      go_wp2_with fail
      go_loopw [4] (fun i wr => ∃ k : Nat, (k + 1 ≤ n5 ∨ k = 0) ∧ i = .int .i64 ((k : Int) + 1) ∧ Below W.heap.size W wr ∧ Hid (∀ (i : Nat) (a b : Int), i < k → x.Times[i]? = some a → x.Times[i + 1]? = some b → a ≤ b)) (fun i _ => n5 - (intOf i).toNat)
      case atStart => exact ⟨0, .inr rfl, rfl, HBY.out, fun i a b hj => absurd hj (Nat.not_lt_zero _)⟩
      case round =>
        obtain ⟨q, hq, rfl, hbw, HN⟩ := hrel
        have HBX : Hid (Below W.heap.size W wr) := hbw
        have HBW : Hid (Below w.heap.size w wr) := HA.out.trans (hbw.mono HA.out.size)
        have hbx := (hbw.block _ (lt_row HB.out)).trans HB.out
        have d5 : wr.cell? ⟨w.heap.size, 5, none⟩ = some (.slice a5 n5 c5) := by rw [cell_of_row wr _ 5 _ _ _ hbx]; rfl
        clear hbw hbx
        by_cases hql : q + 1 < n5
        · obtain ⟨t, ht⟩ : ∃ t, x.Times[q]? = some t := ⟨_, List.getElem?_eq_getElem (by have := HL.out.2.2; omega)⟩
          obtain ⟨u, hu⟩ : ∃ t, x.Times[q + 1]? = some t := ⟨_, List.getElem?_eq_getElem (by have := HL.out.2.2; omega)⟩
          have hrr := HR5.out.later InR.lasts HBW.out
          obtain ⟨b, o, e8, q0⟩ := row_int hrr q t ht
          obtain ⟨b', o', e9, q1⟩ := row_int hrr (q + 1) u hu
          rw [e8] at e9
          obtain ⟨rfl, rfl⟩ : b = b' ∧ o = o' := by simpa using e9
          rw [e8] at d5
          clear e8 e9
          have hql' : (q : Int) + 1 < (n5 : Int) := by omega
          have HT : Hid (x.Times[q]? = some t ∧ x.Times[q + 1]? = some u) := ⟨ht, hu⟩
          have hn0 := After.some wr
          have p5 := After.cell d5
          have p0 := After.cell q0
          have p1 := After.cell q1
          clear ht hu hrr
          by_cases htu : u < t
          · have HF : Hid (¬ PP) := by rw [← HPP.out]; exact fun h => by have := h.2.2 q t u HT.out.1 HT.out.2; omega
            clear HN
            go_wp2_with fail
            refine wp_region_after (by kernel_rfl) (by kernel_rfl) ?_
            repeat (go_big_quiet_step (fail))
            refine wpQuiet_nil ?_
            rintro _ ⟨nq, rfl⟩
            have HBE : Hid (Below w.heap.size w nq.now) := HBW.out.trans (nq.bel.mono HBW.out.size)
            go_wp2_with fail
            go_ret
            exact bres_no HF.out HBE.out
          · have HF : Hid (∀ (i : Nat) (a b : Int), i < q + 1 → x.Times[i]? = some a → x.Times[i + 1]? = some b → a ≤ b) := fun j a b hj ha hb => by
              rcases Nat.lt_or_ge j q with u | u
              · exact HN.out j a b u ha hb
              · obtain rfl : j = q := by omega
                have h1 := HT.out.1.symm.trans ha
                have h2 := HT.out.2.symm.trans hb
                cases h1
                cases h2
                omega
            clear HN
            go_wp2_with fail
            refine wp_region_after (by kernel_rfl) (by kernel_rfl) ?_
            repeat (go_big_quiet_step (fail))
            refine wpQuiet_nil ?_
            rintro _ ⟨nq, rfl⟩
            have HBE : Hid (Below W.heap.size W nq.now) := HBX.out.trans (nq.bel.mono HBX.out.size)
            clear p5 p0 p1 d5 q0 q1 hn0
            go_wp2_with fail
            go_roundw
            case rel => exact ⟨q + 1, by omega, by go_num, HBE.out, HF⟩
            case measure => simp [intOf]; omega
        · have hql' : ¬ (q : Int) + 1 < (n5 : Int) := by omega
          have HF : Hid PP := by
            rw [← HPP.out]
            exact ⟨HP1.out, HAL.out, fun i a b ha hb => HN.out i a b (by have := (List.getElem?_eq_some_iff.1 hb).1; have := HL.out.2.2; omega) ha hb⟩
          clear HN
          go_wp2_with fail
          go_ret
          exact bres_yes HF.out HBW.out

end Go.Proofs.Ytgmddookohkhlaa

/- An overseer that is right: the program's. -/
namespace Go.Proofs.Ytgmddookohkhlaa
open Go.RowKit
set_option linter.unusedVariables false

theorem nan_any (x : Int) (w : World) : Calls Try.prog 96 #[.int .i64 x] w fun e w' => e = .returned (.bool false) ∧ w = w' := by
  have hx : (x != x) = false := by simp
  go_enter Try.func96, Try.ntmps96
  go_wp2_with fail
  go_ret
  exact ⟨rfl, rfl⟩

theorem cmpLess_any (x y : Int) (w : World) : Calls Try.prog 84 #[.int .i64 x, .int .i64 y] w fun e w' => e = .returned (.bool (decide (x < y))) ∧ w = w' := by
  go_enter Try.func84, Try.ntmps84
  go_wp2_with fail
  refine (nan_any x w).mono ?_
  rintro e V ⟨rfl, hV⟩
  subst hV
  go_wp2_with fail
  go_ret
  exact ⟨rfl, rfl⟩

set_option maxRecDepth 100000 in
set_option maxHeartbeats 4000000 in
theorem isSorted_any (a : Option Addr) (n c : Nat) (l : List Int) (w : World) (hr : RowOf 1 InR w (.slice a n c) l) (hl : l.length = n) (hn : n ≤ 1048576) :
    Calls Try.prog 60 #[.slice a n c] w fun e w' => BRes (SortedI l) w e w' := by
  have HR : Hid (RowOf 1 InR w (.slice a n c) l ∧ l.length = n) := ⟨hr, hl⟩
  clear hr hl
  go_enter Try.func60, Try.ntmps60
  go_wp2_with fail
  go_loopw [3] (fun i wr => ∃ k : Nat, k + 1 ≤ n + 1 ∧ i = .int .i64 ((k : Int) - 1) ∧ Hid (Below w.heap.size w wr) ∧ Hid (∀ (i : Nat) (a b : Int), k ≤ i + 1 → l[i]? = some a → l[i + 1]? = some b → a ≤ b)) (fun i _ => (intOf i).toNat)
  case atStart => exact ⟨n, by omega, by go_num, Below.refl _ _, fun i a b h1 _ hb => by have := (List.getElem?_eq_some_iff.1 hb).1; have := HR.out.2; omega⟩
  case round =>
    obtain ⟨k, hk, rfl, HB, HN⟩ := hrel
    by_cases hkl : 2 ≤ k
    · obtain ⟨q, rfl⟩ : ∃ q, k = q + 2 := ⟨k - 2, by omega⟩
      obtain ⟨t, ht⟩ : ∃ t, l[q]? = some t := ⟨_, List.getElem?_eq_getElem (by have := HR.out.2; omega)⟩
      obtain ⟨u, hu⟩ : ∃ t, l[q + 1]? = some t := ⟨_, List.getElem?_eq_getElem (by have := HR.out.2; omega)⟩
      have hrr := HR.out.1.later InR.lasts HB.out
      obtain ⟨b, o, e8, q0⟩ := row_int hrr q t ht
      obtain ⟨b', o', e9, q1⟩ := row_int hrr (q + 1) u hu
      rw [e8] at e9
      obtain ⟨rfl, rfl⟩ : b = b' ∧ o = o' := by simpa using e9
      have HT : Hid (l[q]? = some t ∧ l[q + 1]? = some u) := ⟨ht, hu⟩
      have hk1 : ((q + 2 : Nat) : Int) - 1 = (q : Int) + 1 := by omega
      have hk2 : (0 : Int) < (q : Int) + 1 := by omega
      have hqn : (q : Int) + 1 < (n : Int) := by omega
      have hq0 : (0 : Int) ≤ (q : Int) := by omega
      have hq1 : (0 : Int) ≤ (q : Int) + 1 := by omega
      have hq2 : (q : Int) < (n : Int) := by omega
      have hq3 : IntKind.i64.wrap ((q : Int) + 1 - 1) = (q : Int) := by rw [IntKind.wrap_i64]; omega
      have hq5 : IntKind.i64.wrap (q : Int) = (q : Int) := by rw [IntKind.wrap_i64]; omega
      have hq6 : (q : Int) + 1 - 1 = (q : Int) := by omega
      have hq7 : ((q : Int)).toNat = q := by omega
      have hq4 : ((q : Int) + 1).toNat = q + 1 := by omega
      subst e8
      rw [hk1]
      clear ht hu hrr e9
      have HD : Hid (Below wr.heap.size wr wr.drew) := (Below.refl _ _).drew
      have HSK : Hid (∀ V : World, Below wr.heap.size wr V → V.cell? ⟨b, o + q, none⟩ = some (.int .i64 t) ∧ V.cell? ⟨b, o + (q + 1), none⟩ = some (.int .i64 u)) := fun V hV => ⟨cell_later hV q0, cell_later hV q1⟩
      by_cases htu : u < t
      · have HF : Hid (¬ SortedI l) := fun h => by have := h q t u HT.out.1 HT.out.2; omega
        have hdd : decide (u < t) = true := decide_eq_true htu
        clear HN
        go_wp2_with fail
        go_region_held3 (fun V => V.cell? ⟨b, o + q, none⟩ = some (.int .i64 t) ∧ V.cell? ⟨b, o + (q + 1), none⟩ = some (.int .i64 u)) (first | exact HSK.out _ HD.out | exact HSK.out _ hB) (first | (go_at_call 84; refine (cmpLess_any u t _).mono ?_; rintro e V ⟨rfl, hV⟩; have hB : Below wr.heap.size wr V := by (rw [← hV]; exact HD.out)))
        all_goals
          have HBE : Hid (Below w.heap.size w V) := HB.out.trans (hB.mono HB.out.size)
          clear hB hV HSK HD
          go_wp2_with fail
          go_ret
          exact bres_no HF.out HBE.out
      · have HF : Hid (∀ (i : Nat) (a b : Int), q + 1 ≤ i + 1 → l[i]? = some a → l[i + 1]? = some b → a ≤ b) := fun i a b hi ha hb => by
          rcases Nat.lt_or_ge q i with h | h
          · exact HN.out i a b (by omega) ha hb
          · obtain rfl : i = q := by omega
            have h1 := HT.out.1.symm.trans ha
            have h2 := HT.out.2.symm.trans hb
            cases h1
            cases h2
            omega
        have hdd : decide (u < t) = false := decide_eq_false htu
        clear HN
        go_wp2_with fail
        go_region_held3 (fun V => V.cell? ⟨b, o + q, none⟩ = some (.int .i64 t) ∧ V.cell? ⟨b, o + (q + 1), none⟩ = some (.int .i64 u)) (first | exact HSK.out _ HD.out | exact HSK.out _ hB) (first | (go_at_call 84; refine (cmpLess_any u t _).mono ?_; rintro e V ⟨rfl, hV⟩; have hB : Below wr.heap.size wr V := by (rw [← hV]; exact HD.out)))
        all_goals
          have HBE : Hid (Below w.heap.size w V) := HB.out.trans (hB.mono HB.out.size)
          clear hB hV HSK HD q0 q1
          go_wp2_with fail
          go_roundw
          case rel => exact ⟨q + 1, by omega, by go_num, HBE, HF⟩
          case measure => simp [intOf]
    · have hk1 : ¬ (0 : Int) < (k : Int) - 1 := by omega
      have HF : Hid (SortedI l) := fun i a b ha hb => HN.out i a b (by omega) ha hb
      clear HN
      go_wp2_with fail
      go_ret
      exact bres_yes HF.out HB.out

end Go.Proofs.Ytgmddookohkhlaa

/- An overseer that is right: the program's, whole. -/
namespace Go.Proofs.Ytgmddookohkhlaa
open Go.RowKit
set_option linter.unusedVariables false

theorem enters_wkid : ∀ args w, (callFunc 57 args).run Try.prog w = .ok (.enter 57 args) w := enters_of Try.func57 (by kernel_rfl) rfl
theorem enters_pid : ∀ args w, (callFunc 59 args).run Try.prog w = .ok (.enter 59 args) w := enters_of Try.func59 (by kernel_rfl) rfl
theorem pid_any : Toldint 59 (fun p => p < 0) := by
  intro p w hp
  show Calls Try.prog _ _ _ fun e w' => BRes (p < 0) w e w'
  obtain ⟨PP, hPP⟩ : ∃ P, (p < 0) = P := ⟨_, rfl⟩
  have HPP : Hid ((p < 0) = PP) := hPP
  rw [hPP]
  clear hPP
  by_cases h : p < 0
  · have HP : Hid PP := by rw [← HPP.out]; exact h
    go_enter Try.func59, Try.ntmps59
    go_wp2_with fail
    go_ret
    exact bres_yes HP.out (Below.refl _ _)
  · have HP : Hid (¬ PP) := by rw [← HPP.out]; exact h
    go_enter Try.func59, Try.ntmps59
    go_wp2_with fail
    go_ret
    exact bres_no HP.out (Below.refl _ _)

set_option maxRecDepth 100000 in
set_option maxHeartbeats 4000000 in
theorem kidsFit_any (d : Nat) (a : Option Addr) (n c : Nat) (l : List (DKid d)) (w : World) (hr : RowOf 7 (KidR d) w (.slice a n c) l) (hw : WfRow (WfKid d) l) (hl : l.length = n) (hn : n ≤ 1048576) :
    Calls Try.prog 32 #[.slice a n c] w fun e w' => BRes ((1 ≤ n ∧ n ≤ 8) ∧ ∀ (i : Nat) (k : DKid d), l[i]? = some k → KidP d k) w e w' := by
  have hC := containsKid_any d 57 (fun k => ¬ KidP d k) enters_wkid (fun vs t w hr hw => isWrongKid_any d vs t w hr hw) a n c l w hr hw hl hn
  obtain ⟨QQ, hQQ⟩ : ∃ Q : Prop, (∀ (i : Nat) (k : DKid d), l[i]? = some k → KidP d k) = Q := ⟨_, rfl⟩
  obtain ⟨RR, hRR⟩ : ∃ Q : Prop, (∃ (i : Nat) (k : DKid d), l[i]? = some k ∧ ¬ KidP d k) = Q := ⟨_, rfl⟩
  have HQ : Hid (RR ↔ ¬ QQ) := by
    rw [← hQQ, ← hRR]
    constructor
    · rintro ⟨i, t, h1, h2⟩ h3; exact h2 (h3 i t h1)
    · intro h
      exact Classical.byContradiction fun h2 => h fun i t hi => Classical.byContradiction fun h3 => h2 ⟨i, t, hi, h3⟩
  rw [hRR] at hC
  rw [hQQ]
  have hmf : ∀ (fn : Fn) (first cap : Array Value) (w : World), (Instr.makeFunc fn first cap).run Try.prog w = .ok (.func fn first cap) w := fun _ _ _ _ => rfl
  clear hr hw hl hQQ hRR
  obtain ⟨PP, hPP⟩ : ∃ P, ((1 ≤ n ∧ n ≤ 8) ∧ QQ) = P := ⟨_, rfl⟩
  have HPP : Hid (((1 ≤ n ∧ n ≤ 8) ∧ QQ) = PP) := hPP
  rw [hPP]
  clear hPP
  by_cases h1 : 1 ≤ n
  · by_cases h2 : n ≤ 8
    · have HP : Hid (1 ≤ n ∧ n ≤ 8) := ⟨h1, h2⟩
      have h1' : (1 : Int) ≤ (n : Int) := by omega
      have h2' : (n : Int) ≤ 8 := by omega
      go_enter Try.func32, Try.ntmps32
      go_wp2_with fail
      refine hC.mono ?_
      clear hC
      rintro e V ⟨b, rfl, hb, hB⟩
      have HF : Hid (BRes PP w (.returned (.bool (!b))) V) := by
        show BRes _ _ _ _
        rw [← HPP.out]
        refine ⟨_, rfl, ?_, hB⟩
        cases b with
        | false => exact ⟨fun _ => ⟨HP.out, Classical.byContradiction fun h => by have := hb.2 (HQ.out.2 h); cases this⟩, fun _ => rfl⟩
        | true => exact ⟨fun h => (by cases h), fun h => absurd h.2 (HQ.out.1 (hb.1 rfl))⟩
      clear hb hB
      go_wp2_with fail
      go_ret
      exact HF.out
    · have h1' : (1 : Int) ≤ (n : Int) := by omega
      have h2' : ¬ (n : Int) ≤ 8 := by omega
      have HF : Hid (¬ PP) := by rw [← HPP.out]; exact fun h => h2 h.1.2
      clear hC
      go_enter Try.func32, Try.ntmps32
      go_wp2_with fail
      go_ret
      exact bres_no HF.out (Below.refl _ _)
  · have h1' : ¬ (1 : Int) ≤ (n : Int) := by omega
    have HF : Hid (¬ PP) := by rw [← HPP.out]; exact fun h => h1 h.1.1
    clear hC
    go_enter Try.func32, Try.ntmps32
    go_wp2_with fail
    go_ret
    exact bres_no HF.out (Below.refl _ _)

set_option maxRecDepth 100000 in
set_option maxHeartbeats 4000000 in
theorem pidsFit_any (Wy Mr Mt : Int) (a3 a4 a5 : Option Addr) (n3 c3 n4 c4 n5 c5 : Nat) (Dn : Bool) (l : List Int) (w : World) (hr : RowOf 1 InR w (.slice a4 n4 c4) l) (hw : WfRow I64 l) (hl : l.length = n4) (hn : n4 ≤ 1048576) :
    Calls Try.prog 33 #[.agg #[.int .i64 Wy, .int .i64 Mr, .int .i64 Mt, .slice a3 n3 c3, .slice a4 n4 c4, .slice a5 n5 c5, .bool Dn]] w fun e w' => BRes (n4 = n3 ∧ ∀ (i : Nat) (p : Int), l[i]? = some p → 0 ≤ p) w e w' := by
  have hA : Below w.heap.size w (w.alloc (.cells #[.int .i64 Wy, .int .i64 Mr, .int .i64 Mt, .slice a3 n3 c3, .slice a4 n4 c4, .slice a5 n5 c5, .bool Dn] 30)) := (Below.refl _ _).alloc (Nat.le_refl _) _
  have HC : Hid (∀ V : World, Below w.heap.size w V → _) := fun V hV => containsint_any 59 (fun p => p < 0) enters_pid pid_any a4 n4 c4 l V (hr.later InR.lasts hV) hw hl hn
  obtain ⟨QQ, hQQ⟩ : ∃ Q : Prop, (∀ (i : Nat) (p : Int), l[i]? = some p → 0 ≤ p) = Q := ⟨_, rfl⟩
  obtain ⟨RR, hRR⟩ : ∃ Q : Prop, (∃ (i : Nat) (p : Int), l[i]? = some p ∧ p < 0) = Q := ⟨_, rfl⟩
  have HQ : Hid (RR ↔ ¬ QQ) := by
    rw [← hQQ, ← hRR]
    constructor
    · rintro ⟨i, t, h1, h2⟩ h3; have := h3 i t h1; omega
    · intro h
      exact Classical.byContradiction fun h2 => h fun i t hi => Classical.byContradiction fun h3 => h2 ⟨i, t, hi, by omega⟩
  rw [hRR] at HC
  rw [hQQ]
  have hmf : ∀ (fn : Fn) (first cap : Array Value) (w : World), (Instr.makeFunc fn first cap).run Try.prog w = .ok (.func fn first cap) w := fun _ _ _ _ => rfl
  have HA : Hid (Below w.heap.size w (w.alloc (.cells #[.int .i64 Wy, .int .i64 Mr, .int .i64 Mt, .slice a3 n3 c3, .slice a4 n4 c4, .slice a5 n5 c5, .bool Dn] 30))) := hA
  clear hr hw hl hQQ hRR hA
  obtain ⟨PP, hPP⟩ : ∃ P, (n4 = n3 ∧ QQ) = P := ⟨_, rfl⟩
  have HPP : Hid ((n4 = n3 ∧ QQ) = PP) := hPP
  rw [hPP]
  clear hPP
  by_cases h1 : n4 = n3
  · subst h1
    go_enter Try.func33, Try.ntmps33
    go_wp2_with fail
    refine (HC.out _ HA.out).mono ?_
    rintro e V ⟨b, rfl, hb, hB⟩
    have HBV := HA.out.trans (hB.mono HA.out.size)
    have HF : Hid (BRes PP w (.returned (.bool (!b))) V) := by
      show BRes _ _ _ _
      rw [← HPP.out]
      refine ⟨_, rfl, ?_, HBV⟩
      cases b with
      | false => exact ⟨fun _ => ⟨by simp, Classical.byContradiction fun h => by have := hb.2 (HQ.out.2 h); cases this⟩, fun _ => rfl⟩
      | true => exact ⟨fun h => (by cases h), fun h => absurd h.2 (HQ.out.1 (hb.1 rfl))⟩
    clear hb hB HBV HC
    go_wp2_with fail
    go_ret
    exact HF.out
  · have h1' : ((n4 : Int) == (n3 : Int)) = false := by simp; omega
    have HF : Hid (¬ PP) := by rw [← HPP.out]; exact fun h => h1 h.1
    clear h1 HC
    go_enter Try.func33, Try.ntmps33
    go_wp2_with fail
    go_ret
    exact bres_no HF.out HA.out

set_option maxRecDepth 100000 in
set_option maxHeartbeats 4000000 in
theorem timesFit_any (Wy Mr Mt : Int) (a3 a4 a5 : Option Addr) (n3 c3 n4 c4 n5 c5 : Nat) (Dn : Bool) (l : List Int) (w : World) (hr : RowOf 1 InR w (.slice a5 n5 c5) l) (hl : l.length = n5) (hn : n5 ≤ 1048576) :
    Calls Try.prog 34 #[.agg #[.int .i64 Wy, .int .i64 Mr, .int .i64 Mt, .slice a3 n3 c3, .slice a4 n4 c4, .slice a5 n5 c5, .bool Dn]] w fun e w' => BRes ((n5 : Int) ≤ Mr ∧ SortedI l) w e w' := by
  have hA : Below w.heap.size w (w.alloc (.cells #[.int .i64 Wy, .int .i64 Mr, .int .i64 Mt, .slice a3 n3 c3, .slice a4 n4 c4, .slice a5 n5 c5, .bool Dn] 30)) := (Below.refl _ _).alloc (Nat.le_refl _) _
  have HC : Hid (∀ V : World, Below w.heap.size w V → Calls Try.prog 60 #[.slice a5 n5 c5] V fun e w' => BRes (SortedI l) V e w') := fun V hV => isSorted_any a5 n5 c5 l V (hr.later InR.lasts hV) hl hn
  have HA : Hid (Below w.heap.size w (w.alloc (.cells #[.int .i64 Wy, .int .i64 Mr, .int .i64 Mt, .slice a3 n3 c3, .slice a4 n4 c4, .slice a5 n5 c5, .bool Dn] 30))) := hA
  clear hr hl hA
  obtain ⟨PP, hPP⟩ : ∃ P, ((n5 : Int) ≤ Mr ∧ SortedI l) = P := ⟨_, rfl⟩
  have HPP : Hid (((n5 : Int) ≤ Mr ∧ SortedI l) = PP) := hPP
  rw [hPP]
  clear hPP
  by_cases h1 : (n5 : Int) ≤ Mr
  · have H1 : Hid ((n5 : Int) ≤ Mr) := h1
    go_enter Try.func34, Try.ntmps34
    go_wp2_with fail
    refine (HC.out _ HA.out).mono ?_
    rintro e V ⟨b, rfl, hb, hB⟩
    have HF : Hid (BRes PP w (.returned (.bool b)) V) := by
      show BRes _ _ _ _
      rw [← HPP.out]
      exact ⟨b, rfl, ⟨fun h => ⟨H1.out, hb.1 h⟩, fun h => hb.2 h.2⟩, HA.out.trans (hB.mono HA.out.size)⟩
    clear hb hB HC
    go_wp2_with fail
    go_ret
    exact HF.out
  · have HF : Hid (¬ PP) := by rw [← HPP.out]; exact fun h => h1 h.1
    clear HC
    go_enter Try.func34, Try.ntmps34
    go_wp2_with fail
    go_ret
    exact bres_no HF.out HA.out

set_option maxRecDepth 100000 in
set_option maxHeartbeats 4000000 in
theorem ook_any (Wy Mr Mt : Int) (a3 a4 a5 : Option Addr) (n3 c3 n4 c4 n5 c5 : Nat) (Dn : Bool) (KK PI TI : Prop) (w : World)
    (hK : ∀ V : World, Below w.heap.size w V → Calls Try.prog 32 #[.slice a3 n3 c3] V fun e w' => BRes KK V e w')
    (hP : ∀ V : World, Below w.heap.size w V → Calls Try.prog 33 #[.agg #[.int .i64 Wy, .int .i64 Mr, .int .i64 Mt, .slice a3 n3 c3, .slice a4 n4 c4, .slice a5 n5 c5, .bool Dn]] V fun e w' => BRes PI V e w')
    (hT : ∀ V : World, Below w.heap.size w V → Calls Try.prog 34 #[.agg #[.int .i64 Wy, .int .i64 Mr, .int .i64 Mt, .slice a3 n3 c3, .slice a4 n4 c4, .slice a5 n5 c5, .bool Dn]] V fun e w' => BRes TI V e w') :
    Calls Try.prog 10 #[.agg #[.int .i64 Wy, .int .i64 Mr, .int .i64 Mt, .slice a3 n3 c3, .slice a4 n4 c4, .slice a5 n5 c5, .bool Dn]] w fun e w' => BRes (1 ≤ Wy ∧ Wy ≤ 3 ∧ 0 ≤ Mr ∧ Mr ≤ 20 ∧ 1 ≤ Mt ∧ Mt ≤ 1000 ∧ KK ∧ PI ∧ TI) w e w' := by
  obtain ⟨W, hW⟩ : ∃ W, W = w.alloc (.cells #[.int .i64 Wy, .int .i64 Mr, .int .i64 Mt, .slice a3 n3 c3, .slice a4 n4 c4, .slice a5 n5 c5, .bool Dn] 30) := ⟨_, rfl⟩
  have hA : Below w.heap.size w W := by rw [hW]; exact (Below.refl _ _).alloc (Nat.le_refl _) _
  have nA : W.heap[w.heap.size]? = some (.cells #[.int .i64 Wy, .int .i64 Mr, .int .i64 Mt, .slice a3 n3 c3, .slice a4 n4 c4, .slice a5 n5 c5, .bool Dn] 30 (0, 0)) := by rw [hW]; exact heap_alloc_new w _
  have HN : Hid (W.heap[w.heap.size]? = _) := nA
  have HA : Hid (Below w.heap.size w W) := hA
  have HK : Hid (∀ V : World, Below w.heap.size w V → Calls Try.prog 32 #[.slice a3 n3 c3] V fun e w' => BRes KK V e w') := hK
  have HP : Hid (∀ V : World, Below w.heap.size w V → Calls Try.prog 33 #[.agg #[.int .i64 Wy, .int .i64 Mr, .int .i64 Mt, .slice a3 n3 c3, .slice a4 n4 c4, .slice a5 n5 c5, .bool Dn]] V fun e w' => BRes PI V e w') := hP
  have HT : Hid (∀ V : World, Below w.heap.size w V → Calls Try.prog 34 #[.agg #[.int .i64 Wy, .int .i64 Mr, .int .i64 Mt, .slice a3 n3 c3, .slice a4 n4 c4, .slice a5 n5 c5, .bool Dn]] V fun e w' => BRes TI V e w') := hT
  have HW : Hid (W = _) := hW
  rw [hW] at hA
  clear nA hK hP hT hW
  obtain ⟨PP, hPP⟩ : ∃ P : Prop, (1 ≤ Wy ∧ Wy ≤ 3 ∧ 0 ≤ Mr ∧ Mr ≤ 20 ∧ 1 ≤ Mt ∧ Mt ≤ 1000 ∧ KK ∧ PI ∧ TI) = P := ⟨_, rfl⟩
  have HPP : Hid ((1 ≤ Wy ∧ Wy ≤ 3 ∧ 0 ≤ Mr ∧ Mr ≤ 20 ∧ 1 ≤ Mt ∧ Mt ≤ 1000 ∧ KK ∧ PI ∧ TI) = PP) := hPP
  rw [hPP]
  clear hPP
  by_cases hc0 : 1 ≤ Wy
  · have HP0 : Hid (1 ≤ Wy) := hc0
    by_cases hc1 : Wy ≤ 3
    · have HP1 : Hid (Wy ≤ 3) := hc1
      by_cases hc2 : 0 ≤ Mr
      · have HP2 : Hid (0 ≤ Mr) := hc2
        by_cases hc3 : Mr ≤ 20
        · have HP3 : Hid (Mr ≤ 20) := hc3
          by_cases hc4 : 1 ≤ Mt
          · have HP4 : Hid (1 ≤ Mt) := hc4
            by_cases hc5 : Mt ≤ 1000
            · have HP5 : Hid (Mt ≤ 1000) := hc5
              go_enter Try.func10, Try.ntmps10
              have hC := HK.out W HA.out
              rw [HW.out] at hC
              go_wp2_with fail
              refine hC.mono ?_
              clear hC
              rintro e V6 ⟨b6, rfl, hb6, hB6⟩
              have HB6 : Hid (b6 = true ↔ KK) := hb6
              rw [← HW.out] at hB6
              have HBV6 : Hid (Below w.heap.size w V6) := HA.out.trans (hB6.mono HA.out.size)
              have HWV6 : Hid (Below W.heap.size W V6) := hB6
              have nV := (hB6.block _ (lt_row HN.out)).trans HN.out
              have x0 : V6.cell? ⟨w.heap.size, 0, none⟩ = some (.int .i64 Wy) := by rw [cell_of_row V6 _ 0 _ _ _ nV]; rfl
              have x1 : V6.cell? ⟨w.heap.size, 1, none⟩ = some (.int .i64 Mr) := by rw [cell_of_row V6 _ 1 _ _ _ nV]; rfl
              have x2 : V6.cell? ⟨w.heap.size, 2, none⟩ = some (.int .i64 Mt) := by rw [cell_of_row V6 _ 2 _ _ _ nV]; rfl
              have x3 : V6.cell? ⟨w.heap.size, 3, none⟩ = some (.slice a3 n3 c3) := by rw [cell_of_row V6 _ 3 _ _ _ nV]; rfl
              have x4 : V6.cell? ⟨w.heap.size, 4, none⟩ = some (.slice a4 n4 c4) := by rw [cell_of_row V6 _ 4 _ _ _ nV]; rfl
              have x5 : V6.cell? ⟨w.heap.size, 5, none⟩ = some (.slice a5 n5 c5) := by rw [cell_of_row V6 _ 5 _ _ _ nV]; rfl
              have x6 : V6.cell? ⟨w.heap.size, 6, none⟩ = some (.bool Dn) := by rw [cell_of_row V6 _ 6 _ _ _ nV]; rfl
              clear nV
              clear hb6 hB6
              cases b6 with
              | false =>
                have HF : Hid (¬ PP) := by rw [← HPP.out]; exact fun h => by have := HB6.out.2 h.2.2.2.2.2.2.1; simp at this
                go_wp2_with fail
                go_ret
                exact bres_no HF.out HBV6.out
              | true =>
                have HP6 : Hid (KK) := HB6.out.1 (by simp)
                have hC := HP.out V6 HBV6.out
                go_wp2_with fail
                refine hC.mono ?_
                clear hC
                rintro e V7 ⟨b7, rfl, hb7, hB7⟩
                have HB7 : Hid (b7 = true ↔ PI) := hb7
                have HBV7 : Hid (Below w.heap.size w V7) := HBV6.out.trans (hB7.mono HBV6.out.size)
                have HWV7 : Hid (Below W.heap.size W V7) := HWV6.out.trans (hB7.mono HWV6.out.size)
                have nV := (HWV7.out.block _ (lt_row HN.out)).trans HN.out
                have x0 : V7.cell? ⟨w.heap.size, 0, none⟩ = some (.int .i64 Wy) := by rw [cell_of_row V7 _ 0 _ _ _ nV]; rfl
                have x1 : V7.cell? ⟨w.heap.size, 1, none⟩ = some (.int .i64 Mr) := by rw [cell_of_row V7 _ 1 _ _ _ nV]; rfl
                have x2 : V7.cell? ⟨w.heap.size, 2, none⟩ = some (.int .i64 Mt) := by rw [cell_of_row V7 _ 2 _ _ _ nV]; rfl
                have x3 : V7.cell? ⟨w.heap.size, 3, none⟩ = some (.slice a3 n3 c3) := by rw [cell_of_row V7 _ 3 _ _ _ nV]; rfl
                have x4 : V7.cell? ⟨w.heap.size, 4, none⟩ = some (.slice a4 n4 c4) := by rw [cell_of_row V7 _ 4 _ _ _ nV]; rfl
                have x5 : V7.cell? ⟨w.heap.size, 5, none⟩ = some (.slice a5 n5 c5) := by rw [cell_of_row V7 _ 5 _ _ _ nV]; rfl
                have x6 : V7.cell? ⟨w.heap.size, 6, none⟩ = some (.bool Dn) := by rw [cell_of_row V7 _ 6 _ _ _ nV]; rfl
                clear nV
                clear hb7 hB7
                cases b7 with
                | false =>
                  have HF : Hid (¬ PP) := by rw [← HPP.out]; exact fun h => by have := HB7.out.2 h.2.2.2.2.2.2.2.1; simp at this
                  go_wp2_with fail
                  go_ret
                  exact bres_no HF.out HBV7.out
                | true =>
                  have HP7 : Hid (PI) := HB7.out.1 (by simp)
                  have hC := HT.out V7 HBV7.out
                  go_wp2_with fail
                  refine hC.mono ?_
                  clear hC
                  rintro e V8 ⟨b8, rfl, hb8, hB8⟩
                  have HB8 : Hid (b8 = true ↔ TI) := hb8
                  have HBV8 : Hid (Below w.heap.size w V8) := HBV7.out.trans (hB8.mono HBV7.out.size)
                  have HWV8 : Hid (Below W.heap.size W V8) := HWV7.out.trans (hB8.mono HWV7.out.size)
                  clear hb8 hB8
                  cases b8 with
                  | false =>
                    have HF : Hid (¬ PP) := by rw [← HPP.out]; exact fun h => by have := HB8.out.2 h.2.2.2.2.2.2.2.2; simp at this
                    go_wp2_with fail
                    go_ret
                    exact bres_no HF.out HBV8.out
                  | true =>
                    have HP8 : Hid (TI) := HB8.out.1 (by simp)
                    have HF : Hid PP := by rw [← HPP.out]; exact ⟨(HP0.out), (HP1.out), (HP2.out), (HP3.out), (HP4.out), (HP5.out), (HP6.out), (HP7.out), (HP8.out)⟩
                    go_wp2_with fail
                    go_ret
                    exact bres_yes HF.out HBV8.out
            · have HF : Hid (¬ PP) := by rw [← HPP.out]; exact fun h => hc5 h.2.2.2.2.2.1
              go_enter Try.func10, Try.ntmps10
              go_wp2_with fail
              go_ret
              exact bres_no HF.out hA
          · have HF : Hid (¬ PP) := by rw [← HPP.out]; exact fun h => hc4 h.2.2.2.2.1
            go_enter Try.func10, Try.ntmps10
            go_wp2_with fail
            go_ret
            exact bres_no HF.out hA
        · have HF : Hid (¬ PP) := by rw [← HPP.out]; exact fun h => hc3 h.2.2.2.1
          go_enter Try.func10, Try.ntmps10
          go_wp2_with fail
          go_ret
          exact bres_no HF.out hA
      · have HF : Hid (¬ PP) := by rw [← HPP.out]; exact fun h => hc2 h.2.2.1
        go_enter Try.func10, Try.ntmps10
        go_wp2_with fail
        go_ret
        exact bres_no HF.out hA
    · have HF : Hid (¬ PP) := by rw [← HPP.out]; exact fun h => hc1 h.2.1
      go_enter Try.func10, Try.ntmps10
      go_wp2_with fail
      go_ret
      exact bres_no HF.out hA
  · have HF : Hid (¬ PP) := by rw [← HPP.out]; exact fun h => hc0 h.1
    go_enter Try.func10, Try.ntmps10
    go_wp2_with fail
    go_ret
    exact bres_no HF.out hA

theorem implOverOk_any (d : Nat) (vs : List Value) (x : DOver d) (w : World) (hr : OverR d w vs x) (hw : WfOver d x) (hz : szOverD d x ≤ 1048576) :
    Calls Try.prog 10 #[.agg vs.toArray] w fun e w' => BRes (pOverOk d x) w e w' := by
  have hz' : szRow (szKidD d) x.Kids + (szRow szI x.Pids + szRow szI x.Times) ≤ 1048576 := hz
  have l1 := szRow_len (szKidD d) x.Kids
  have l2 := szRow_len szI x.Pids
  have l3 := szRow_len szI x.Times
  obtain ⟨v3, v4, v5, rfl, h3, h4, h5⟩ := hr
  obtain ⟨a3, c3, rfl⟩ := h3.slice
  obtain ⟨a4, c4, rfl⟩ := h4.slice
  obtain ⟨a5, c5, rfl⟩ := h5.slice
  refine (ook_any x.Way x.MaxR x.MaxT a3 a4 a5 x.Kids.length c3 x.Pids.length c4 x.Times.length c5 x.Down _ _ _ w (fun V hV => kidsFit_any d a3 _ c3 x.Kids V (h3.later (KidR.lasts d) hV) hw.2.2.2.1 rfl (by omega))
    (fun V hV => pidsFit_any x.Way x.MaxR x.MaxT a3 a4 a5 x.Kids.length c3 _ c4 _ c5 x.Down x.Pids V (h4.later InR.lasts hV) hw.2.2.2.2.1 rfl (by omega))
    (fun V hV => timesFit_any x.Way x.MaxR x.MaxT a3 a4 a5 x.Kids.length c3 _ c4 _ c5 x.Down x.Times V (h5.later InR.lasts hV) rfl (by omega))).mono ?_
  rintro e w' ⟨b, he, hb, hB⟩
  refine ⟨b, he, hb.trans ?_, hB⟩
  unfold pOverOk inI
  simp only [Bool.and_eq_true, decide_eq_true_eq]
  constructor
  · rintro ⟨h1, h2, h3, h4, h5, h6, ⟨h7, h8⟩, ⟨h9, ha⟩, hb, hc⟩
    exact ⟨⟨⟨h1, h2⟩, ⟨h3, h4⟩, ⟨h5, h6⟩, ⟨by omega, by omega⟩, h9, hb⟩, ⟨h8, ha⟩, hc⟩
  · rintro ⟨⟨⟨h1, h2⟩, ⟨h3, h4⟩, ⟨h5, h6⟩, ⟨h7, h7'⟩, h9, hb⟩, ⟨h8, ha⟩, hc⟩
    exact ⟨h1, h2, h3, h4, h5, h6, ⟨⟨by omega, by omega⟩, h8⟩, ⟨h9, ha⟩, hb, hc⟩

end Go.Proofs.Ytgmddookohkhlaa
