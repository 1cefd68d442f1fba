/- Overseers that are right: the model's. -/
import Derived.Test.YtgmddookohkhlaaOo1M
import Derived.Test.YtgmddookohkhlaaLk1M
namespace Go.Proofs.Ytgmddookohkhlaa
open Go.RowKit
set_option linter.unusedVariables false

def RangeP {d : Nat} (n i : Nat) (ks : List (DKid d)) : Prop := ∀ (k : Nat) (u : DKid d), ks[k]? = some u → 0 ≤ u.Sub → (i : Int) + 1 ≤ u.Sub ∧ u.Sub ≤ (n : Int) - 1
def OneP (d : Nat) (l : List (DOver d)) (i : Nat) (o : DOver d) : Prop := pOverOk d o ∧ (0 < i → (oSubs l).count (i : Int) = 1) ∧ RangeP l.length i o.Kids
def pOversOk (d : Nat) (l : List (DOver d)) : Prop := (1 ≤ l.length ∧ l.length ≤ 8) ∧ (∀ (i : Nat) (o : DOver d), l[i]? = some o → OneP d l i o) ∧ (oNames l).Nodup

theorem pOverOk.kids {d : Nat} {o : DOver d} (h : pOverOk d o) : o.Kids.length ≤ 8 := by
  have := h.1.2.2.2.1
  simp [inI] at this
  omega
theorem sz_elem {α : Type} {f : α → Nat} {l : List α} {x : α} (h : x ∈ l) : f x ≤ szRow f l := by
  unfold szRow
  have : f x ≤ (l.map f).sum := by
    induction l with
    | nil => cases h
    | cons y r ih =>
      rw [List.map_cons, List.sum_cons]
      rcases List.mem_cons.1 h with rfl | h
      · omega
      · have := ih h; omega
  omega

set_option maxRecDepth 100000 in
set_option maxHeartbeats 4000000 in
theorem specOversOk_any (d : Nat) (v : Value) (l : List (DOver d)) (w : World) (hr : RowOf 7 (OverR d) w v l) (hw : WfRow (WfOver d) l) (hz : szRow (szOverD d) l ≤ 1048576) :
    Calls Try.prog 13 #[v] w fun e w' => BRes (pOversOk d l) w e w' := by
  obtain ⟨a, c, rfl⟩ := hr.slice
  have hos : (oSubs l).length ≤ 1048576 := Nat.le_trans (oSubs_len l) (Nat.le_trans (Nat.le_add_left _ _) hz)
  have hll := szRow_len (szOverD d) l
  obtain ⟨n, hn⟩ : ∃ n, l.length = n := ⟨_, rfl⟩
  obtain ⟨PP, hPP⟩ : ∃ P : Prop, pOversOk d l = P := ⟨_, rfl⟩
  have HPP : Hid (((1 ≤ n ∧ n ≤ 8) ∧ (∀ (i : Nat) (o : DOver d), l[i]? = some o → OneP d l i o) ∧ (oNames l).Nodup) = PP) := by rw [← hn]; exact hPP
  rw [hn] at hr hll ⊢
  rw [hPP]
  have HR : Hid (RowOf 7 (OverR d) w (.slice a n c) l ∧ l.length = n ∧ WfRow (WfOver d) l ∧ szRow (szOverD d) l ≤ 1048576 ∧ (oSubs l).length ≤ 1048576) := ⟨hr, hn, hw, hz, hos⟩
  clear hr hw hz hos hn hPP
  go_enter Try.func13, Try.ntmps13
  go_wp2_with fail
  refine (inI_any (n : Int) 1 8 w).mono ?_
  rintro e V ⟨rfl, hV⟩
  subst hV
  obtain ⟨bb, hbb⟩ : ∃ b, inI (n : Int) 1 8 = b := ⟨_, rfl⟩
  have HB : Hid (inI (n : Int) 1 8 = bb) := hbb
  rw [hbb]
  clear hbb
  cases bb with
  | false =>
    have HF : Hid (¬ PP) := by rw [← HPP.out]; exact fun h => by have := HB.out; simp [inI] at this; omega
    go_wp2_with fail
    go_ret
    exact bres_no HF.out (Below.refl _ _)
  | true =>
  have HI : Hid (1 ≤ n ∧ n ≤ 8) := by have := HB.out; simp [inI] at this; show _ ∧ _; omega
  have hn8 : n ≤ 8 := HI.out.2
  clear HB
  go_wp2_with fail
  go_loopw [3] (fun x wr => ∃ i : Nat, i ≤ n ∧ x = .int .i64 (i : Int) ∧ Hid (Below w.heap.size w wr) ∧ Hid (∀ (j : Nat) (o : DOver d), j < i → l[j]? = some o → OneP d l j o)) (fun x _ => n - (intOf x).toNat)
  case atStart => exact ⟨0, Nat.zero_le _, rfl, Below.refl _ _, fun j o hj => absurd hj (Nat.not_lt_zero _)⟩
  case round =>
    obtain ⟨i, hi, rfl, HBW, HN⟩ := hrel
    by_cases hin : i < n
    · obtain ⟨t, ht⟩ : ∃ t, l[i]? = some t := ⟨_, List.getElem?_eq_getElem (by have := HR.out.2.1; omega)⟩
      have hin' : (i : Int) < (n : Int) := by omega
      have hmem := List.mem_of_getElem? ht
      obtain ⟨b, o, a3, c3, a4, c4, a5, c5, e8, f0, f1, f2, f3, f4, f5, f6, h3, h4, h5⟩ := Over_at HR.out.1 i t ht
      have hC := specOverOk_any d _ t wr ⟨_, _, _, rfl, h3.later (KidR.lasts d) HBW.out, h4.later InR.lasts HBW.out, h5.later InR.lasts HBW.out⟩ (HR.out.2.2.1.2 t hmem) (Nat.le_trans (sz_elem hmem) HR.out.2.2.2.1)
      obtain ⟨m, hm⟩ : ∃ m, t.Kids.length = m := ⟨_, rfl⟩
      rw [hm] at f3 h3 hC
      have hm1 : m ≤ 1048576 := by
        have h1 := Nat.le_trans (sz_elem (f := szOverD d) hmem) HR.out.2.2.2.1
        have h2 : t.Kids.length ≤ szOverD d t := Nat.le_trans (szRow_len (szKidD d) t.Kids) (Nat.le_add_right _ _)
        omega
      have HT : Hid (l[i]? = some t ∧ t.Kids.length = m) := ⟨ht, hm⟩
      have HF3 : Hid (∀ V : World, Below w.heap.size w V → V.cell? ⟨b, o + i * 7 + 3, none⟩ = some (.slice a3 m c3)) := fun V hV => cell_later hV f3
      have HK : Hid (RowOf 7 (KidR d) w (.slice a3 m c3) t.Kids) := h3
      have hwr1 : IntKind.i64.wrap ((i : Int) + 1) = (i : Int) + 1 := by rw [IntKind.wrap_i64]; omega
      have hwr2 : IntKind.i64.wrap ((n : Int) - 1) = (n : Int) - 1 := by rw [IntKind.wrap_i64]; omega
      replace f0 := cell_later HBW.out f0
      replace f1 := cell_later HBW.out f1
      replace f2 := cell_later HBW.out f2
      replace f3 := cell_later HBW.out f3
      replace f4 := cell_later HBW.out f4
      replace f5 := cell_later HBW.out f5
      replace f6 := cell_later HBW.out f6
      clear ht hm h3 h4 h5 hmem
      subst e8
      go_wp2_with fail
      refine hC.mono ?_
      clear hC f0 f1 f2 f3 f4 f5 f6
      rintro e V ⟨bb, rfl, hbb, hB⟩
      have HBV : Hid (Below w.heap.size w V ∧ Below wr.heap.size wr V) := ⟨HBW.out.trans (hB.mono HBW.out.size), hB⟩
      have HBB : Hid (bb = true ↔ pOverOk d t) := hbb
      clear hB hbb
      cases bb with
      | false =>
        have HF : Hid (¬ PP) := by rw [← HPP.out]; exact fun h => by have := HBB.out.2 (h.2.1 i t HT.out.1).1; cases this
        clear HN
        go_wp2_with fail
        go_ret
        exact bres_no HF.out HBV.out.1
      | true =>
        have HOK : Hid (pOverOk d t) := HBB.out.1 (by simp)
        by_cases hi0 : 0 < i
        case pos =>
          have hi0' : (0 : Int) < (i : Int) := by omega
          have hC := specSubs_any d (some ⟨b, o, none⟩) n c l (i : Int) V (HR.out.1.later (OverR.lasts d) HBV.out.1) HR.out.2.1 hn8 HR.out.2.2.2.2
          obtain ⟨C, hCC⟩ : ∃ C, (oSubs l).count (i : Int) = C := ⟨_, rfl⟩
          have HC : Hid ((oSubs l).count (i : Int) = C) := hCC
          rw [hCC] at hC
          clear hCC
          go_wp2_with fail
          refine hC.mono ?_
          clear hC
          rintro e V2 ⟨rfl, hB2⟩
          have HB2 : Hid (Below w.heap.size w V2) := HBV.out.1.trans (hB2.mono HBV.out.1.size)
          clear hB2
          by_cases hc1 : C = 1
          case neg =>
            have hcb : ((C : Int) != 1) = true := by simp; omega
            have HF : Hid (¬ PP) := by rw [← HPP.out]; exact fun h => hc1 (HC.out.symm.trans ((h.2.1 i t HT.out.1).2.1 hi0))
            clear hc1 HN
            go_wp2_with fail
            go_ret
            exact bres_no HF.out HB2.out
          have hcb : ((C : Int) != 1) = false := by simp; omega
          have HC1 : Hid (C = 1) := hc1
          clear hc1
          have HJ : Hid (0 < i → (oSubs l).count (i : Int) = 1) := fun _ => HC.out.trans HC1.out
          have HBY : Hid (Below w.heap.size w V2) := HB2.out
          go_wp2_with fail
          go_loopw [4] (fun x wv => ∃ k : Nat, k ≤ m ∧ x = .int .i64 (k : Int) ∧ Hid (Below w.heap.size w wv) ∧ Hid (∀ (j : Nat) (u : DKid d), j < k → t.Kids[j]? = some u → 0 ≤ u.Sub → (i : Int) + 1 ≤ u.Sub ∧ u.Sub ≤ (n : Int) - 1)) (fun x _ => m - (intOf x).toNat)
          case atStart => exact ⟨0, Nat.zero_le _, rfl, HBY.out, fun j u hj => absurd hj (Nat.not_lt_zero _)⟩
          case round =>
            obtain ⟨k, hk, rfl, HBU, HM⟩ := hrel
            have g3 := HF3.out wr HBU.out
            by_cases hkm : k < m
            · obtain ⟨u, hu⟩ : ∃ u, t.Kids[k]? = some u := ⟨_, List.getElem?_eq_getElem (by have := HT.out.2; omega)⟩
              obtain ⟨b', o', i2, i3, s4, a9, l9, c9, e9, q0, q1, q2, q3, q4, q5, q6, qT⟩ := Kid_at HK.out k u hu
              have hkm' : (k : Int) < (m : Int) := by omega
              have r6 := cell_later HBU.out q6
              have HU : Hid (t.Kids[k]? = some u) := hu
              rw [e9] at g3
              obtain ⟨s, hs⟩ : ∃ s, u.Sub = s := ⟨_, rfl⟩
              have HS : Hid (u.Sub = s) := hs
              rw [hs] at r6
              clear hu q0 q1 q2 q3 q4 q5 q6 qT e9 hs
              by_cases hs0 : 0 ≤ s
              · go_wp2_with fail
                refine (inI_any s ((i : Int) + 1) ((n : Int) - 1) _).mono ?_
                rintro e Z ⟨rfl, hZ⟩
                subst hZ
                by_cases hin2 : (i : Int) + 1 ≤ s ∧ s ≤ (n : Int) - 1
                · have hb2 : inI s ((i : Int) + 1) ((n : Int) - 1) = true := by simp [inI, hin2.1, hin2.2]
                  rw [hb2]
                  have HX : Hid (∀ (j : Nat) (u : DKid d), j < k + 1 → t.Kids[j]? = some u → 0 ≤ u.Sub → (i : Int) + 1 ≤ u.Sub ∧ u.Sub ≤ (n : Int) - 1) := fun j y hj hy h0 => by
                    rcases Nat.lt_or_ge j k with q | q
                    · exact HM.out j y q hy h0
                    · obtain rfl : j = k := by omega
                      have := HU.out.symm.trans hy
                      cases this
                      rw [HS.out]
                      exact hin2
                  clear HM hb2 hin2
                  go_wp2_with fail
                  go_roundw
                  case rel => exact ⟨k + 1, by omega, by go_num, HBU, HX⟩
                  case measure => simp [intOf]; omega
                · have hb2 : inI s ((i : Int) + 1) ((n : Int) - 1) = false := by
                    rw [Bool.eq_false_iff]
                    intro e
                    simp [inI] at e
                    exact hin2 ⟨e.1, by omega⟩
                  rw [hb2]
                  have HF : Hid (¬ PP) := by
                    rw [← HPP.out]
                    intro h
                    have h1 := (h.2.1 i t HT.out.1).2.2 k u HU.out (by rw [HS.out]; exact hs0)
                    rw [HS.out, HR.out.2.1] at h1
                    exact hin2 h1
                  clear HM hb2 hin2
                  go_wp2_with fail
                  go_ret
                  exact bres_no HF.out HBU.out
              · have HX : Hid (∀ (j : Nat) (u : DKid d), j < k + 1 → t.Kids[j]? = some u → 0 ≤ u.Sub → (i : Int) + 1 ≤ u.Sub ∧ u.Sub ≤ (n : Int) - 1) := fun j y hj hy h0 => by
                  rcases Nat.lt_or_ge j k with q | q
                  · exact HM.out j y q hy h0
                  · obtain rfl : j = k := by omega
                    have := HU.out.symm.trans hy
                    cases this
                    rw [HS.out] at h0
                    exact absurd h0 hs0
                clear HM
                go_wp2_with fail
                go_roundw
                case rel => exact ⟨k + 1, by omega, by go_num, HBU, HX⟩
                case measure => simp [intOf]; omega
            · obtain rfl : k = m := by omega
              have hkl : ¬ (k : Int) < (k : Int) := by omega
              have HX : Hid (∀ (j : Nat) (o : DOver d), j < i + 1 → l[j]? = some o → OneP d l j o) := fun j y hj hy => by
                rcases Nat.lt_or_ge j i with q | q
                · exact HN.out j y q hy
                · obtain rfl : j = i := by omega
                  have := HT.out.1.symm.trans hy
                  cases this
                  refine ⟨HOK.out, HJ.out, fun k' u hu h0 => ?_⟩
                  rw [HR.out.2.1]
                  exact HM.out k' u (by have := (List.getElem?_eq_some_iff.1 hu).1; have := HT.out.2; omega) hu h0
              clear HM HN
              go_wp2_with fail
              go_roundw
              case rel => exact ⟨i + 1, by omega, by go_num, HBU, HX⟩
              case measure => simp [intOf]; omega
        have hi0' : ¬ (0 : Int) < (i : Int) := by omega
        have HJ : Hid (0 < i → (oSubs l).count (i : Int) = 1) := fun h => absurd h hi0
        have HBY : Hid (Below w.heap.size w V) := HBV.out.1
        go_wp2_with fail
        go_loopw [4] (fun x wv => ∃ k : Nat, k ≤ m ∧ x = .int .i64 (k : Int) ∧ Hid (Below w.heap.size w wv) ∧ Hid (∀ (j : Nat) (u : DKid d), j < k → t.Kids[j]? = some u → 0 ≤ u.Sub → (i : Int) + 1 ≤ u.Sub ∧ u.Sub ≤ (n : Int) - 1)) (fun x _ => m - (intOf x).toNat)
        case atStart => exact ⟨0, Nat.zero_le _, rfl, HBY.out, fun j u hj => absurd hj (Nat.not_lt_zero _)⟩
        case round =>
          obtain ⟨k, hk, rfl, HBU, HM⟩ := hrel
          have g3 := HF3.out wr HBU.out
          by_cases hkm : k < m
          · obtain ⟨u, hu⟩ : ∃ u, t.Kids[k]? = some u := ⟨_, List.getElem?_eq_getElem (by have := HT.out.2; omega)⟩
            obtain ⟨b', o', i2, i3, s4, a9, l9, c9, e9, q0, q1, q2, q3, q4, q5, q6, qT⟩ := Kid_at HK.out k u hu
            have hkm' : (k : Int) < (m : Int) := by omega
            have r6 := cell_later HBU.out q6
            have HU : Hid (t.Kids[k]? = some u) := hu
            rw [e9] at g3
            obtain ⟨s, hs⟩ : ∃ s, u.Sub = s := ⟨_, rfl⟩
            have HS : Hid (u.Sub = s) := hs
            rw [hs] at r6
            clear hu q0 q1 q2 q3 q4 q5 q6 qT e9 hs
            by_cases hs0 : 0 ≤ s
            · go_wp2_with fail
              refine (inI_any s ((i : Int) + 1) ((n : Int) - 1) _).mono ?_
              rintro e Z ⟨rfl, hZ⟩
              subst hZ
              by_cases hin2 : (i : Int) + 1 ≤ s ∧ s ≤ (n : Int) - 1
              · have hb2 : inI s ((i : Int) + 1) ((n : Int) - 1) = true := by simp [inI, hin2.1, hin2.2]
                rw [hb2]
                have HX : Hid (∀ (j : Nat) (u : DKid d), j < k + 1 → t.Kids[j]? = some u → 0 ≤ u.Sub → (i : Int) + 1 ≤ u.Sub ∧ u.Sub ≤ (n : Int) - 1) := fun j y hj hy h0 => by
                  rcases Nat.lt_or_ge j k with q | q
                  · exact HM.out j y q hy h0
                  · obtain rfl : j = k := by omega
                    have := HU.out.symm.trans hy
                    cases this
                    rw [HS.out]
                    exact hin2
                clear HM hb2 hin2
                go_wp2_with fail
                go_roundw
                case rel => exact ⟨k + 1, by omega, by go_num, HBU, HX⟩
                case measure => simp [intOf]; omega
              · have hb2 : inI s ((i : Int) + 1) ((n : Int) - 1) = false := by
                  rw [Bool.eq_false_iff]
                  intro e
                  simp [inI] at e
                  exact hin2 ⟨e.1, by omega⟩
                rw [hb2]
                have HF : Hid (¬ PP) := by
                  rw [← HPP.out]
                  intro h
                  have h1 := (h.2.1 i t HT.out.1).2.2 k u HU.out (by rw [HS.out]; exact hs0)
                  rw [HS.out, HR.out.2.1] at h1
                  exact hin2 h1
                clear HM hb2 hin2
                go_wp2_with fail
                go_ret
                exact bres_no HF.out HBU.out
            · have HX : Hid (∀ (j : Nat) (u : DKid d), j < k + 1 → t.Kids[j]? = some u → 0 ≤ u.Sub → (i : Int) + 1 ≤ u.Sub ∧ u.Sub ≤ (n : Int) - 1) := fun j y hj hy h0 => by
                rcases Nat.lt_or_ge j k with q | q
                · exact HM.out j y q hy h0
                · obtain rfl : j = k := by omega
                  have := HU.out.symm.trans hy
                  cases this
                  rw [HS.out] at h0
                  exact absurd h0 hs0
              clear HM
              go_wp2_with fail
              go_roundw
              case rel => exact ⟨k + 1, by omega, by go_num, HBU, HX⟩
              case measure => simp [intOf]; omega
          · obtain rfl : k = m := by omega
            have hkl : ¬ (k : Int) < (k : Int) := by omega
            have HX : Hid (∀ (j : Nat) (o : DOver d), j < i + 1 → l[j]? = some o → OneP d l j o) := fun j y hj hy => by
              rcases Nat.lt_or_ge j i with q | q
              · exact HN.out j y q hy
              · obtain rfl : j = i := by omega
                have := HT.out.1.symm.trans hy
                cases this
                refine ⟨HOK.out, HJ.out, fun k' u hu h0 => ?_⟩
                rw [HR.out.2.1]
                exact HM.out k' u (by have := (List.getElem?_eq_some_iff.1 hu).1; have := HT.out.2; omega) hu h0
            clear HM HN
            go_wp2_with fail
            go_roundw
            case rel => exact ⟨i + 1, by omega, by go_num, HBU, HX⟩
            case measure => simp [intOf]; omega
    · obtain rfl : i = n := by omega
      have hil : ¬ (i : Int) < (i : Int) := by omega
      have HAL : Hid (∀ (j : Nat) (o : DOver d), l[j]? = some o → OneP d l j o) := fun j o ho => HN.out j o (by have := (List.getElem?_eq_some_iff.1 ho).1; have := HR.out.2.1; omega) ho
      have hC := specNames_any d a i c l wr (HR.out.1.later (OverR.lasts d) HBW.out) HR.out.2.1 hn8 (fun o ho => by
        obtain ⟨j, hj⟩ := List.mem_iff_getElem?.1 ho
        exact (HAL.out j o hj).1.kids)
      clear HN
      go_wp2_with fail
      refine hC.mono ?_
      clear hC
      rintro e V ⟨v, rfl, HS⟩
      have HBV : Hid (Below w.heap.size w V) := HBW.out.trans (HS.out.2.mono HBW.out.size)
      have hC := l4Once_any (oNames l) v V HS.out.1.tellS (by
        have := oNames_len l fun o ho => by
          obtain ⟨j, hj⟩ := List.mem_iff_getElem?.1 ho
          exact (HAL.out j o hj).1.kids
        have := HR.out.2.1
        omega) (fun a n c e => by
        rcases HS.out.1.2 with ⟨e1, _⟩ | ⟨g, c', cur, e1, _, _, h, _⟩
        · rw [e1] at e; cases e; exact Nat.le_refl _
        · rw [e1] at e; cases e; exact h)
      go_wp2_with fail
      refine hC.mono ?_
      clear hC
      rintro e X ⟨b, rfl, HBB, hX⟩
      have HBX : Hid (Below w.heap.size w X) := HBV.out.trans (hX.mono HBV.out.size)
      have HF : Hid (b = true ↔ PP) := by
        show _ ↔ _
        rw [← HPP.out]
        exact HBB.out.trans ⟨fun h => ⟨HI.out, HAL.out, h⟩, fun h => h.2.2⟩
      clear hX HBB
      go_wp2_with fail
      go_ret
      exact ⟨_, rfl, HF.out, HBX.out⟩

end Go.Proofs.Ytgmddookohkhlaa
