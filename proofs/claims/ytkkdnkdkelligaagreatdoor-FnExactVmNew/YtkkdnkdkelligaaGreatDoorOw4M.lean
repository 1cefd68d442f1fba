/- The program's copy of a list of terms: the walk. -/
import Derived.Test.YtkkdnkdkelligaaGreatDoorIGetM
import Derived.Test.YtkkdnkdkelligaaGreatDoorGetTM
import Derived.Test.YtkkdnkdkelligaaGreatDoorVo1M
import Derived.Test.YtkkdnkdkelligaaGreatDoorMkRM
import Derived.Test.YtkkdnkdkelligaaGreatDoorRLawM
import Derived.Test.YtkkdnkdkelligaaGreatDoorMarkTM
import Derived.Deep.DeepCutAuto
import Derived.Laws.CopyRow
import Derived.Laws.CopyOwn
import Derived.Lib.SlBuf
import Derived.Test.YtkkdnkdkelligaaGreatDoorVp3M
import Derived.Test.YtkkdnkdkelligaaGreatDoorHeldTM
namespace Go.Proofs.YtkkdnkdkelligaaGreatDoor
open Go.RowKit
set_option linter.unusedVariables false

theorem Tryz.infoTerms : (Tryz.prog.info? 39).map (fun i => (i.zero, i.size, i.bytes)) = some (some (.slice none 0 0), 1, 24) := by kernel_rfl

/-- Where the copy stands, and how much waits. -/
def CpAt (w : World) (C X : Nat) (root : Pnd) (td _u : Value) (wr : World) (R : Nat) : Prop := ∃ ps S, OPhys w wr X td ps S ∧ Fut (root.d + 1) root.v root.us wr S ps ∧ wk ps = R ∧ R ≤ C

theorem oat_start {d : Nat} {w w1 W1 w2 w3 : World} {us : List (Tm (d + 1))} {g c X : Nat} (hne : us ≠ []) (hb1 : Below w.heap.size w w1) (hX : X = w1.heap.size) (hW1 : W1 = w1.alloc (.cells #[.int .i64 33554432] 155)) (hg2 : W1.grownBy w2 none) (hg : W1.heap.size ≤ g) (hcl : ClonedAt w w2 d us g c) (hw3 : w3 = w2.alloc (.cells #[.slice (some ⟨g, 0, none⟩) us.length c] 39)) :
    CpAt w (cntL (d + 1) us) X ⟨g, c, d, us⟩ (.slice (some ⟨w2.heap.size, 0, none⟩) 1 1) (.slice none 0 0) w3 (cntL (d + 1) us) := by
  have hbW : Below w1.heap.size w1 W1 := by rw [hW1]; exact (Below.refl _ _).alloc (Nat.le_refl _) _
  have hXW : W1.heap[X]? = some (.cells #[.int .i64 33554432] 155 (0, 0)) := by rw [hW1, hX]; exact heap_alloc_new w1 _
  have hb2 : Below W1.heap.size W1 w2 := ⟨hg2.os, hg2.tape, hg2.output, hg2.size, fun k hk => hg2.block k hk (by simp)⟩
  have hb3 : Below w2.heap.size w2 w3 := by rw [hw3]; exact (Below.refl _ _).alloc (Nat.le_refl _) _
  have hn3 : w3.heap[w2.heap.size]? = some (.cells #[.slice (some ⟨g, 0, none⟩) us.length c] 39 (0, 0)) := by rw [hw3]; exact heap_alloc_new w2 _
  have hbA : Below w.heap.size w w3 := hb1.trans ((hbW.trans ((hb2.trans (hb3.mono hb2.size)).mono hbW.size)).mono hb1.size)
  obtain ⟨cur, k1, k2, k3, k4⟩ := hcl
  have k1' : w3.heap[g]? = some (.cells cur 66 (0, 0)) := (hb3.block _ (lt_row k1)).trans k1
  have s1 := hb1.size
  have s2 := hbW.size
  refine ⟨[⟨g, c, d, us⟩], [], ⟨⟨by simp, .inr ⟨w2.heap.size, 1, _, rfl, ?_, hn3, Nat.le_refl _, by unfold maxLen; omega, rfl, rfl⟩⟩, fun p hp => ?_, by simp, fun b hb => by simp at hb, fun p hp => ?_, ?_, by omega, hbA⟩, Fut.start _ _, wk_one _, Nat.le_refl _⟩
  · have := hb2.size; omega
  · obtain rfl : p = _ := by simpa using hp
    exact ⟨hne, cur, k1', k4⟩
  · obtain rfl : p = _ := by simpa using hp
    show w.heap.size ≤ g
    omega
  · refine ⟨33554432, ?_, by omega, by omega⟩
    exact (hb3.block _ (Nat.lt_of_lt_of_le (lt_row hXW) hb2.size)).trans ((hb2.block _ (lt_row hXW)).trans hXW)

theorem oat_end {w wr : World} {X : Nat} {root : Pnd} {td : Value} {S : List Nat} (h : OPhys w wr X td [] S) (hf : Fut (root.d + 1) root.v root.us wr S []) : ∃ fp, OwnL (root.d + 1) wr root.v root.us fp ∧ Fresh w.heap.size wr fp ∧ Below w.heap.size w wr := by
  obtain ⟨fp, h1, h2⟩ := hf.done
  have hnd : S.Nodup := by have := h.nd; simpa using this
  exact ⟨fp, h1, ⟨h2.nodup_iff.2 hnd, fun g hg => ⟨(h.hi g (h2.mem_iff.1 hg)).1, (h.hi g (h2.mem_iff.1 hg)).2.lt⟩⟩, h.bel⟩

theorem empty_len {w : World} {B : Nat} {e : TypeId} {v : Value} (h : w.ownsRow B e 1 v 0 []) : ∃ a c, v = .slice a 0 c := by
  rcases h.2 with ⟨rfl, _⟩ | ⟨g, c, cur, rfl, _⟩
  · exact ⟨_, _, rfl⟩
  · exact ⟨_, _, rfl⟩

theorem IInv.texts {w0 wr w3 : World} {X : Nat} {root : Pnd} {S : List Nat} {rest : List Pnd} {p : Pnd} {k : Nat} {todo todo' : Value} {cs cs' : List Pnd} {cur : Array Value} {t : Tm (p.d + 1)} (h : IInv w0 wr X root S rest p k todo cs cur) (ht : p.us[k]? = some t)
    (hph : OPhys w0 w3 X todo' (rest ++ cs') (S ++ [p.g])) (hsame : ∀ j, IsT wr j → w3.heap[j]? = wr.heap[j]?) (parts : Value) (W : World) (hW : Below (w3.setCell ⟨p.g, k * 4 + 3, none⟩ parts).heap.size (w3.setCell ⟨p.g, k * 4 + 3, none⟩ parts) W) :
    Calls Tryz.prog 97 #[.pointer (some ⟨X, 0, none⟩), .string t.S] W fun e w4 => e = .returned (.string t.S) ∧ Hid ((w3.setCell ⟨p.g, k * 4 + 3, none⟩ parts).grownBy w4 (some X) ∧ Room w4 X) ∧ w4.cell? ⟨p.g, k * 4 + 2, none⟩ = some (.string t.S) ∧ w4.frozen? ⟨p.g, k * 4 + 2, none⟩ = false := by
  have hpA : p.g ∈ S ++ [p.g] := by simp
  have hph1 := (hph.set hpA (k * 4 + 3) parts).below hW
  obtain ⟨x, hx, x0, x1⟩ := hph1.tx
  obtain ⟨lv, hc, _⟩ := h.left k t (Nat.le_refl _) ht
  have hrow3 : w3.heap[p.g]? = some (.cells cur 66 (0, 0)) := (hsame p.g ⟨cur, h.row⟩).trans h.row
  have hA1 := heap_setCell_same w3 p.g (k * 4 + 3) _ _ parts hrow3
  have hA2 := (hW.block p.g (lt_row hA1)).trans hA1
  refine (textOwn_any X x t.S W hx x0 x1).mono ?_
  rintro e w4 ⟨rfl, hg, x', y1, y2, y3⟩
  have hA4 := (hg.block p.g (lt_row hA2) fun e => (hph1.tx.ne ⟨_, hA2⟩) (Option.some.inj e)).trans hA2
  refine ⟨rfl, ⟨⟨hg.os.trans hW.os, hg.tape.trans hW.tape, hg.output.trans hW.output, Nat.le_trans hW.size hg.size, fun j hj hne => (hg.block j (Nat.lt_of_lt_of_le hj hW.size) hne).trans (hW.block j hj)⟩, x', y1, y2, y3⟩, ?_, frozen_of_row w4 _ _ _ _ hA4⟩
  rw [cell_of_row w4 _ _ _ _ _ hA4, Array.getElem?_setIfInBounds_ne (by omega)]
  exact hc.2.2.1

/-- What comes back. -/
def OwnRes (d n : Nat) (us : List (Tm (d + 1))) (w : World) (e : Ending) (w' : World) : Prop := ∃ g c fp, e = .returned (.slice (some ⟨g, 0, none⟩) n c) ∧ OwnL (d + 1) w' (.slice (some ⟨g, 0, none⟩) n c) us fp ∧ Fresh w.heap.size w' fp ∧ Below w.heap.size w w'

set_option maxRecDepth 100000 in
set_option maxHeartbeats 4000000 in
theorem ownTerms_some (d : Nat) (v : Value) (us : List (Tm (d + 1))) (w : World) (hr : RdQ (d + 1) w v us) (hne : us ≠ []) (hc : cntL (d + 1) us ≤ 33554432) :
    Calls Tryz.prog 75 #[v] w fun e w' => OwnRes d us.length us w e w' := by
  obtain ⟨i0, hi, hz0, hz1, hz2⟩ := info_parts Tryz.infoTerm
  obtain ⟨j0, hj, hy0, hy1, hy2⟩ := info_parts Tryz.infoTerms
  have hM := measureOf_any (d + 1) v us w hr (by omega)
  obtain ⟨b, o, c, rfl, hp, hel⟩ := hr.open hne
  obtain ⟨news, n1, n2, n3, n4⟩ := rdq_cells w us b o hel
  have h0 : 0 < us.length := List.length_pos_iff.2 hne
  have hlc := len_cnt us
  obtain ⟨n, hn⟩ : ∃ n, us.length = n := ⟨_, rfl⟩
  have HN : Hid (us.length = n ∧ us ≠ []) := ⟨hn, hne⟩
  have HC4 : Hid _ := n4
  have HC2 : Hid (∀ j u, news[j]? = some u → w.cell? ⟨b, o + j, none⟩ = some u) := n2
  obtain ⟨C, hCe⟩ : ∃ C, cntL (d + 1) us = C := ⟨_, rfl⟩
  obtain ⟨P, hPe⟩ : ∃ P : Int, ((depL (d + 1) us : Nat) : Int) = P := ⟨_, rfl⟩
  have HCE : Hid (cntL (d + 1) us = C) := hCe
  rw [hCe, hPe, hn] at hM
  rw [hCe] at hc hlc
  rw [hn] at n1 h0 hlc ⊢
  clear n2 n4 hr hel hne hn hCe hPe hp
  have hf0 := fld0 (C : Int) P
  have hcm : decide ((33554432 : Int) < (C : Int)) = false := by simp; omega
  go_enter Tryz.func75, Tryz.ntmps75
  go_wp2_with fail
  refine hM.mono ?_
  clear hM
  rintro e w1 ⟨rfl, hb1⟩
  obtain ⟨W1, hW1⟩ : ∃ W, W = w1.alloc (.cells #[.int .i64 33554432] 155) := ⟨_, rfl⟩
  have hbW : Below w1.heap.size w1 W1 := by rw [hW1]; exact (Below.refl _ _).alloc (Nat.le_refl _) _
  have HA : Hid (∀ j u, news[j]? = some u → W1.cell? ((⟨b, o, none⟩ : Addr).add j) = some u) := fun j u hu => by
    rw [Addr.add_lit]
    exact cell_later hbW (cell_later hb1 (HC2.out j u hu))
  have HB1 : Hid (Below w.heap.size w w1) := hb1
  have HW1 : Hid (W1 = _) := hW1
  rw [hW1] at HA
  clear hW1 hbW hb1
  go_wp2_with (at_builtin; refine wpList_append_own _ rfl _ _ 39 rfl (w1.heap.size + 1) 66 i0 _ 4 56 Tryz.underlying39 hi hz0 hz1 hz2 rfl (by decide) _ 0 [] rfl (World.ownsRow_nil _ _ _ _) ⟨b, o, none⟩ n c news rfl n1 HA.out n3 (by unfold maxLen; omega) (by omega) (by simp) ?_)
  intro v' w2 hown hgrow hnil
  have hown' : w2.ownsRow (w1.heap.size + 1) 66 4 v' n news := by simpa using hown
  obtain ⟨g, c', rfl, hg, hcl⟩ := cloned_of HN.out.1 h0 hown' HC4.out
  obtain ⟨w3, hw3⟩ : ∃ W, W = w2.alloc (.cells #[.slice (some ⟨g, 0, none⟩) n c'] 39) := ⟨_, rfl⟩
  have hO := oat_start (d := d) (us := us) (w3 := w3) HN.out.2 HB1.out rfl HW1.out (by rw [HW1.out]; exact hgrow) (by rw [HW1.out]; simpa using hg) hcl (by rw [HN.out.1]; exact hw3)
  rw [HCE.out] at hO
  obtain ⟨X, hX⟩ : ∃ X, w1.heap.size = X := ⟨_, rfl⟩
  rw [hX] at hO ⊢
  have HO : Hid (CpAt w C X ⟨g, c', d, us⟩ (.slice (some ⟨w2.heap.size, 0, none⟩) 1 1) (.slice none 0 0) w3 C) := hO
  rw [hw3] at HO
  clear hO hown hgrow hnil hown' hcl hg HA HW1 HC2 HC4 n1 n3 hX hw3 HB1
  obtain ⟨μ, hμ⟩ := least_work (CpAt w C X ⟨g, c', d, us⟩)
  have HMU : Hid (∀ a b c n, CpAt w C X ⟨g, c', d, us⟩ a b c n → CpAt w C X ⟨g, c', d, us⟩ a b c (μ a b c) ∧ μ a b c ≤ n) := hμ
  clear hμ
  go_wp2_with fail
  go_loopw [6] (fun td wr => Hid (∃ R, CpAt w C X ⟨g, c', d, us⟩ td (.slice none 0 0) wr R)) (fun td wr => μ td (.slice none 0 0) wr)
  case atStart => exact ⟨C, HO.out⟩
  case round =>
    obtain ⟨wo, rfl⟩ : ∃ wo : World, wo = wr := ⟨_, rfl⟩
    obtain ⟨R0, hR0⟩ := hrel.out
    have hMR := (HMU.out _ _ _ _ hR0).1
    obtain ⟨R, hRe⟩ : ∃ R, μ u6 (.slice none 0 0) wo = R := ⟨_, rfl⟩
    rw [hRe] at hMR
    have HRE : Hid (μ u6 (.slice none 0 0) wo = R) := hRe
    clear HO hrel hR0 hRe
    obtain ⟨ps, S, hph, hfut, hwk, hRC⟩ := hMR
    rcases List.eq_nil_or_concat ps with rfl | ⟨rest, p, rfl⟩
    · obtain ⟨a0, c0, rfl⟩ := empty_len (by simpa using hph.row)
      have HE : Hid _ := oat_end hph hfut
      have HNL : Hid (us.length = n) := HN.out.1
      clear hph hfut
      go_wp2_with fail
      go_ret
      obtain ⟨fp, e1, e2, e3⟩ := HE.out
      have e1' : OwnL (d + 1) wo (.slice (some ⟨g, 0, none⟩) us.length c') us fp := e1
      rw [HNL.out] at e1'
      exact ⟨g, c', fp, rfl, e1', e2, e3⟩
    · rw [List.concat_eq_append] at hph hfut hwk
      obtain ⟨gT, cap, rfl, hcT, hcap, hph1⟩ := hph.pop
      have hhalf := hph.half p (by simp)
      have hpos : 0 < p.us.length := List.length_pos_iff.2 hhalf.1
      obtain ⟨cur0, hI0⟩ := IInv.start hph1 hfut hhalf
      have hlenp : p.us.length ≤ R := by have := len_cnt p.us; rw [wk_append, wk_one] at hwk; omega
      have hrl : rest.length ≤ R := by
        have h2 := wk_len rest fun q hq => (hph.half q (List.mem_append_left _ hq)).1
        rw [wk_append] at hwk; omega
      obtain ⟨m, hm⟩ : ∃ m, rest.length = m := ⟨_, rfl⟩
      obtain ⟨len, hlen⟩ : ∃ len, p.us.length = len := ⟨_, rfl⟩
      have HLN : Hid (p.us.length = len) := hlen
      have hpv : p.v = .slice (some ⟨p.g, 0, none⟩) len p.c := by rw [← hlen]; rfl
      have HI0 : Hid (IInv w wo X ⟨g, c', d, us⟩ S rest p 0 (.slice (some ⟨gT, 0, none⟩) m cap) [] cur0) := by rw [← hm]; exact hI0
      have HWK : Hid (wk (rest ++ [p]) = R) := hwk
      have HRE2 : Hid (μ (.slice (some ⟨gT, 0, none⟩) (m + 1) cap) (.slice none 0 0) wo = R) := by rw [← hm]; exact HRE.out
      clear HRE
      rw [hpv] at hcT
      rw [hm] at hcT hrl hcap ⊢
      rw [hlen] at hpos hlenp
      clear hph hfut hph1 hhalf hI0 hwk hm hlen hpv
      go_wp2_with fail
      go_loopw [6, 37] (fun td i wr => Hid (∃ (k : Nat) (cs : List Pnd) (cur : Array Value), k ≤ len ∧ i = .int .i64 k ∧ IInv w wr X ⟨g, c', d, us⟩ S rest p k td cs cur)) (fun _ i _ => len - (intOf i).toNat)
      case atStart => exact ⟨0, [], cur0, Nat.zero_le _, rfl, HI0.out⟩
      case round =>
        obtain ⟨k, cs, cur, hk, rfl, hI⟩ := hrel.out
        clear hrel HI0
        by_cases hkl : k < len
        · obtain ⟨t, ht⟩ : ∃ t, p.us[k]? = some t := ⟨_, List.getElem?_eq_getElem (by rw [HLN.out]; exact hkl)⟩
          obtain ⟨lv, hcl, hrd⟩ := hI.left k t (Nat.le_refl _) ht
          obtain ⟨la, lc, hlv⟩ := hrd.len
          have hrow := hI.row
          have t0 : wr.cell? ⟨p.g, k * 4, none⟩ = some (.int .i64 t.K) := by rw [cell_of_row wr _ _ _ _ _ hrow]; exact hcl.1
          have t1 : wr.cell? ⟨p.g, k * 4 + 1, none⟩ = some (.int .i64 t.N) := by rw [cell_of_row wr _ _ _ _ _ hrow]; exact hcl.2.1
          have t2 : wr.cell? ⟨p.g, k * 4 + 2, none⟩ = some (.string t.S) := by rw [cell_of_row wr _ _ _ _ _ hrow]; exact hcl.2.2.1
          have t3 : wr.cell? ⟨p.g, k * 4 + 3, none⟩ = some lv := by rw [cell_of_row wr _ _ _ _ _ hrow]; exact hcl.2.2.2
          have hpz : p.g < wr.heap.size := lt_row hrow
          obtain ⟨W1, hW1⟩ : ∃ W, W = wr.alloc (.cells #[.int .i64 t.K, .int .i64 t.N, .string t.S, lv] 66) := ⟨_, rfl⟩
          have hbW : Below wr.heap.size wr W1 := by rw [hW1]; exact (Below.refl _ _).alloc (Nat.le_refl _) _
          have hnW : W1.heap[wr.heap.size]? = some (.cells #[.int .i64 t.K, .int .i64 t.N, .string t.S, lv] 66 (0, 0)) := by rw [hW1]; exact heap_alloc_new wr _
          have HW1 : Hid (W1 = _) := hW1
          have HCL : Hid (cur[k * 4 + 3]? = some lv) := hcl.2.2.2
          have HI : Hid (IInv w wr X ⟨g, c', d, us⟩ S rest p k u6 cs cur) := hI
          have HT : Hid (p.us[k]? = some t) := ht
          by_cases hL : t.L = []
          · rw [hL] at hlv
            have hlv0 : lv = .slice la 0 lc := hlv
            subst hlv0
            have hC := copiesOf_empty la lc W1
            rw [hW1] at hC
            clear hlv hcl hrd hI hrow hW1 ht
            go_wp2_with fail
            refine hC.mono ?_
            clear hC t0 t1 t2
            rintro e w1 ⟨rfl, hb1⟩
            rw [← HW1.out] at hb1
            have hb01 : Below wr.heap.size wr w1 := hbW.trans (hb1.mono hbW.size)
            have hsame : ∀ j, IsT wr j → w1.heap[j]? = wr.heap[j]? := fun j hj => hb01.block j hj.lt
            have hph3 := HI.out.ph.below hb01
            have HTX : Hid (∀ W : World, _ → _) := HI.out.texts HT.out hph3 hsame (.slice none 0 0)
            have HST : Hid (∀ w4 : World, (w1.setCell ⟨p.g, k * 4 + 3, none⟩ (.slice none 0 0)).grownBy w4 (some X) → Room w4 X → ∃ cur', IInv w (w4.setCell ⟨p.g, k * 4 + 2, none⟩ (.string t.S)) X ⟨g, c', d, us⟩ S rest p (k + 1) u6 cs cur') := fun w4 h4 h5 =>
              HI.out.step HT.out hph3 hsame h4 h5 (fun cur' q1 q2 => HI.out.rf.empty HT.out q1 q2 hL) (by rw [hL, cntL_nil]; rfl)
            have hh1 := (hb01.block _ hpz).trans HI.out.row
            have hn1 := (hb1.block _ (lt_row hnW)).trans hnW
            have c3 : w1.cell? ⟨p.g, k * 4 + 3, none⟩ = some (.slice la 0 lc) := by rw [cell_of_row w1 _ _ _ _ _ hh1]; exact HCL.out
            have z3 : w1.frozen? ⟨p.g, k * 4 + 3, none⟩ = false := frozen_of_row w1 _ _ _ _ hh1
            have b2 : w1.cell? ⟨wr.heap.size, 2, none⟩ = some (.string t.S) := by rw [cell_of_row w1 _ 2 _ _ _ hn1]; rfl
            have hne : ¬ p.g = wr.heap.size := by omega
            have hne' : ¬ wr.heap.size = p.g := by omega
            clear hh1 hn1 hph3 hsame hb01 hb1 hnW hbW t3
            go_wp2_with fail
            refine (HTX.out _ (Below.refl _ _)).mono ?_
            clear c3 z3 b2 hne hne'
            rintro e w4 ⟨rfl, HG4, x2, z2⟩
            have HF : Hid _ := HST.out w4 HG4.out.1 HG4.out.2
            clear HST HG4 HTX
            go_wp2_with fail
            go_roundw
            case rel =>
              obtain ⟨cur', hF⟩ := HF.out
              exact ⟨k + 1, cs, cur', by omega, by go_num, hF⟩
            case measure => simp [intOf]; omega
          · obtain ⟨e, hde⟩ : ∃ e, p.d = e + 1 := by
              cases hd : p.d with
              | zero =>
                exfalso
                apply hL
                obtain ⟨pg, pc, pd, pus⟩ := p
                simp only at hd
                subst hd
                exact tm0 _
              | succ e => exact ⟨e, rfl⟩
            obtain ⟨pg, pc, pd, pus⟩ := p
            simp only at hde
            subst hde
            simp only at *
            have hcntL : t.L.length ≤ 33554432 := by
              have h1 := cntP_succ (e + 1) pus k t HT.out
              have h2 := cntP_le (e + 1) pus (k + 1)
              have h3 : t.L.length ≤ cntL (e + 1) t.L := len_cnt t.L
              have h4 := HWK.out
              rw [wk_append, wk_one] at h4
              simp only at h4
              omega
            have hnl : (rest ++ cs).length + 1 ≤ 67108865 := by
              have h1 := HI.out.work
              simp only at h1
              have h2 := cntP_le (e + 1) pus k
              have h4 := HWK.out
              rw [wk_append, wk_one] at h4
              simp only at h4
              have h5 := wk_len (rest ++ cs) fun q hq => (HI.out.ph.half q hq).1
              rw [wk_append] at h5
              omega
            have hC := copiesOf_any e lv t.L w W1 hrd (hI.ph.bel.trans (hbW.mono hI.ph.bel.size)) hL (by omega)
            rw [hW1] at hC
            obtain ⟨ll, hll⟩ : ∃ l, t.L.length = l := ⟨_, rfl⟩
            have HLL : Hid (t.L.length = ll) := hll
            rw [hll] at hC hlv
            obtain ⟨q, hq⟩ : ∃ q, (rest ++ cs).length = q := ⟨_, rfl⟩
            have HQ : Hid ((rest ++ cs).length = q) := hq
            rw [hq] at hnl
            subst hlv
            clear hcl hrd hI hrow hW1 ht hll hq hcntL
            go_wp2_with fail
            refine hC.mono ?_
            clear hC t0 t1 t2
            rintro e2 w1 ⟨g1, c1, rfl, hg1, hcl1, hb1⟩
            rw [← HW1.out] at hb1 hg1
            have hb01 : Below wr.heap.size wr w1 := hbW.trans (hb1.mono hbW.size)
            have hwg : w1.ownsRow w.heap.size 39 1 u6 q ((rest ++ cs).map Pnd.v) := by rw [← HQ.out]; exact (HI.out.ph.below hb01).row
            have HCL1 : Hid (ClonedAt w w1 e t.L g1 c1 ∧ W1.heap.size ≤ g1 ∧ Below W1.heap.size W1 w1 ∧ Below wr.heap.size wr w1) := ⟨hcl1, hg1, hb1, hb01⟩
            have hlow : w.heap.size ≤ w1.heap.size := (HI.out.ph.below hb01).bel.size
            clear hcl1 hg1 hb1 hb01
            go_wp2_with (at_builtin; refine wpList_append_own _ rfl _ _ 156 rfl w.heap.size 39 j0 _ 1 24 Tryz.underlying156 hj hy0 hy1 hy2 rfl (by decide) _ q _ rfl (hwg.alloc _) ⟨w1.heap.size, 0, none⟩ 1 1 [.slice (some ⟨g1, 0, none⟩) ll c1] rfl rfl (new_one _ _ rfl) (by intro u hu; simp at hu; subst hu; rfl) (by unfold maxLen; omega) (by omega) (by simp; omega) ?_)
            intro td' w3 hown3 hgr3 hnil3
            have hown3' : w3.ownsRow w.heap.size 39 1 td' ((rest ++ cs).length + 1) ((rest ++ cs).map Pnd.v ++ [Pnd.v ⟨g1, c1, e, t.L⟩]) := by
              rw [HQ.out]
              have : Pnd.v ⟨g1, c1, e, t.L⟩ = .slice (some ⟨g1, 0, none⟩) ll c1 := by rw [← HLL.out]; rfl
              rw [this, List.map_append, List.append_assoc]; exact hown3
            have hA1 : Below w1.heap.size w1 (w1.alloc (.cells #[.slice (some ⟨g1, 0, none⟩) ll c1] 39)) := (Below.refl _ _).alloc (Nat.le_refl _) _
            have hgr3' : (w1.alloc (.cells #[.slice (some ⟨g1, 0, none⟩) ll c1] 39)).grownBy w3 u6.ownBlock := hgr3
            obtain ⟨P1, P2⟩ := HI.out.ph.push ⟨g1, c1, e, t.L⟩ hL (Nat.le_trans hbW.size HCL1.out.2.1) HCL1.out.2.2.2 HCL1.out.1 hA1 hown3' hgr3'
            rw [List.append_assoc] at P1
            have HTX : Hid (∀ W : World, _ → _) := HI.out.texts HT.out P1 P2 (.slice (some ⟨g1, 0, none⟩) ll c1)
            have HST : Hid (∀ w4 : World, (w3.setCell ⟨pg, k * 4 + 3, none⟩ (.slice (some ⟨g1, 0, none⟩) ll c1)).grownBy w4 (some X) → Room w4 X → ∃ cur', IInv w (w4.setCell ⟨pg, k * 4 + 2, none⟩ (.string t.S)) X ⟨g, c', d, us⟩ S rest ⟨pg, pc, e + 1, pus⟩ (k + 1) td' (cs ++ [⟨g1, c1, e, t.L⟩]) cur') := fun w4 h4 h5 =>
              HI.out.step HT.out P1 P2 h4 h5 (fun cur' q1 q2 => RowFut.push HI.out.rf HT.out q1 (by rw [HLL.out]; exact q2)) (by rw [wk_append, wk_one])
            have hh1 := (P2 pg ⟨cur, HI.out.row⟩).trans HI.out.row
            have hn1 : w3.heap[wr.heap.size]? = some (.cells #[.int .i64 t.K, .int .i64 t.N, .string t.S, .slice la ll lc] 66 (0, 0)) := by
              have e1 := (HCL1.out.2.2.1.block _ (lt_row hnW)).trans hnW
              have e2 := (hA1.block _ (lt_row e1)).trans e1
              exact (hgr3'.block _ (lt_row e2) fun e3 => (todo_kind hwg _ e3.symm).2.1 ⟨_, e1⟩).trans e2
            have c3 : w3.cell? ⟨pg, k * 4 + 3, none⟩ = some (.slice la ll lc) := by rw [cell_of_row w3 _ _ _ _ _ hh1]; exact HCL.out
            have z3 : w3.frozen? ⟨pg, k * 4 + 3, none⟩ = false := frozen_of_row w3 _ _ _ _ hh1
            have b2 : w3.cell? ⟨wr.heap.size, 2, none⟩ = some (.string t.S) := by rw [cell_of_row w3 _ 2 _ _ _ hn1]; rfl
            have hne : ¬ pg = wr.heap.size := by omega
            have hne' : ¬ wr.heap.size = pg := by omega
            clear hh1 hn1 P1 P2 hA1 hgr3' hown3' hgr3 hown3 hnil3 hwg HCL1 hnW hbW t3 hlow
            go_wp2_with fail
            refine (HTX.out _ (Below.refl _ _)).mono ?_
            clear c3 z3 b2 hne hne'
            rintro e5 w4 ⟨rfl, HG4, x2, z2⟩
            have HF : Hid _ := HST.out w4 HG4.out.1 HG4.out.2
            clear HST HG4 HTX
            go_wp2_with fail
            go_roundw
            case rel =>
              obtain ⟨cur', hF⟩ := HF.out
              exact ⟨k + 1, _, cur', by omega, by go_num, hF⟩
            case measure => simp [intOf]; omega
        · obtain rfl : k = len := by omega
          have hI' := hI
          rw [← HLN.out] at hI'
          obtain ⟨D1, D2, D3⟩ := hI'.done
          have HD : Hid (CpAt w C X ⟨g, c', d, us⟩ u6 (.slice none 0 0) wr (wk (rest ++ cs))) := ⟨rest ++ cs, _, D1, D2, rfl, by have := HWK.out; omega⟩
          have HLT : Hid (wk (rest ++ cs) < R) := by have h1 := HWK.out; have h2 := HLN.out; show _ < _; omega
          clear D1 D2 D3 hI hI'
          go_wp2_with fail
          go_roundw
          case rel => exact ⟨_, HD.out⟩
          case measure =>
            have h1 := (HMU.out _ _ _ _ HD.out).2
            have h2 := HRE2.out
            have h3 := HLT.out
            omega

end Go.Proofs.YtkkdnkdkelligaaGreatDoor

/- A machine read with plain addresses, its lists put together as parts of one list. -/
namespace Go.Proofs.YtkkdnkdkelligaaGreatDoor
open Go.RowKit
set_option linter.unusedVariables false

def zT {d : Nat} (l : List (Tm d)) : Tm (d + 1) := mkT 0 0 ⟨#[]⟩ l
def lsT {d : Nat} (v : DVm d) : List (Tm (d + 2)) := zT v.Stack :: v.Frames.map fun f => zT f.Slots
def FrameQ (d : Nat) (w : World) (vs : List Value) (x : DFrame d) : Prop := ∃ v2, vs = [.int .i64 x.F, .int .i64 x.Pc, v2] ∧ RdQ (d + 1) w v2 x.Slots
def VmQ (d : Nat) (w : World) (vs : List Value) (x : DVm d) : Prop := ∃ v0 v1, vs = [v0, v1] ∧ RowOf 3 (FrameQ d) w v0 x.Frames ∧ RdQ (d + 1) w v1 x.Stack
theorem FrameQ.lasts (d : Nat) : Lasts (FrameQ d) := by
  rintro w w' vs x ⟨v2, rfl, h0⟩ hb
  exact ⟨v2, rfl, h0.later hb⟩
theorem FrameQ_at {d n c : Nat} {w : World} {a : Option Addr} {m : List (DFrame d)} (h : RowOf 3 (FrameQ d) w (.slice a n c) m) (i : Nat) (x : DFrame d) (hx : m[i]? = some x) : ∃ (b o : Nat) (a2 : Option Addr) (c2 : Nat), a = some ⟨b, o, none⟩ ∧ w.cell? ⟨b, o + i * 3, none⟩ = some (.int .i64 x.F) ∧ w.cell? ⟨b, o + i * 3 + 1, none⟩ = some (.int .i64 x.Pc) ∧ w.cell? ⟨b, o + i * 3 + 2, none⟩ = some (.slice a2 x.Slots.length c2) ∧ RdQ (d + 1) w (.slice a2 x.Slots.length c2) x.Slots := by
  obtain ⟨a', c', e, hel⟩ := h
  cases e
  obtain ⟨b, o, vs, h2, h3, h4, v2, rfl, g0⟩ := hel i x hx
  have g1 := g0
  obtain ⟨a2, c2, rfl, _⟩ := g1
  exact ⟨b, o, a2, c2, h2, h4 0 _ rfl, h4 1 _ rfl, h4 2 _ rfl, g0⟩

/-- A part of the list under way: what it holds was there at the beginning. -/
def LsO (d : Nat) (w0 : World) (_ : World) (vs : List Value) (x : Tm (d + 2)) (f : List Nat) : Prop := f = [] ∧ x = zT x.L ∧ ∃ lv, vs = [.int .i64 0, .int .i64 0, .string ⟨#[]⟩, lv] ∧ RdQ (d + 1) w0 lv x.L
theorem LsO.lasts (d : Nat) (w0 : World) : LastsO (LsO d w0) := fun _ _ _ _ _ h _ => h
theorem ls_rdq {d B : Nat} {w0 w : World} {v : Value} {us : List (Tm (d + 2))} {fp : List Nat} (h : MadeR 4 66 (LsO d w0) B w v us fp) (hne : us ≠ []) (hb : Below w0.heap.size w0 w) : RdQ (d + 2) w v us := by
  obtain ⟨a, l, c, fp', rfl, ho, _⟩ := h.own
  rcases ho with ⟨h0, _⟩ | ⟨g, c', cur, fps, h1, h2, h3, _, h5⟩
  · exact absurd h0 hne
  · cases h1
    refine ⟨_, _, rfl, fun i t ht => ?_⟩
    obtain ⟨vs, f, q1, q2, q3, q4, q5, lv, rfl, q6⟩ := h5 i t ht
    refine ⟨g, 0, lv, rfl, ⟨cur, _, h2⟩, ⟨?_, ?_, ?_, ?_⟩, q6.later hb⟩
    · rw [cell_of_row w _ _ _ _ _ h2, q5, Nat.zero_add]; exact q3 0 _ rfl
    · rw [cell_of_row w _ _ _ _ _ h2, q5, Nat.zero_add]; exact q3 1 _ rfl
    · rw [cell_of_row w _ _ _ _ _ h2, q5, Nat.zero_add]; exact q3 2 _ rfl
    · rw [cell_of_row w _ _ _ _ _ h2, Nat.zero_add]; exact q3 3 _ rfl

theorem lsT_len {d : Nat} (v : DVm d) : (lsT v).length = v.Frames.length + 1 := by simp [lsT]
theorem lsT_next {d : Nat} {v : DVm d} {j : Nat} {f : DFrame d} (h : v.Frames[j]? = some f) : (lsT v).take (j + 1 + 1) = (lsT v).take (j + 1) ++ [zT f.Slots] := by
  have h1 : (lsT v)[j + 1]? = some (zT f.Slots) := by simp [lsT, h]
  rw [List.take_add_one, h1]
  rfl
theorem frames_next {d : Nat} {v : DVm d} {j : Nat} {f : DFrame d} (h : v.Frames[j]? = some f) : v.Frames.take (j + 1) = v.Frames.take j ++ [f] := by
  rw [List.take_add_one, h]
  rfl
theorem grown_belowB {w w' : World} {r : Option Nat} {B : Nat} (h : w.grownBy w' r) (hB : B ≤ w.heap.size) (hr : ∀ g, r = some g → B ≤ g) : Below B w w' :=
  ⟨h.os, h.tape, h.output, h.size, fun k hk => h.block k (by omega) fun e => by have := hr k e.symm; omega⟩
theorem MadeR.block {α : Type} {k : Nat} {T : TypeId} {O : World → List Value → α → List Nat → Prop} {B : Nat} {w : World} {v : Value} {xs : List α} {fp : List Nat} (h : MadeR k T O B w v xs fp) : ∀ g, v.ownBlock = some g → B ≤ g ∧ g ∈ fp := by
  obtain ⟨cs, fps, h1, h2, h3, h4, h5⟩ := h
  intro g hg
  have hm : g ∈ fp := by rw [h3, hg]; simp
  exact ⟨(h4.2 g hm).1, hm⟩
/-- The first part of a list. -/
theorem LsO.one {d : Nat} {w0 w : World} {B : Nat} {lv : Value} {l : List (Tm (d + 1))} (hB : B ≤ w.heap.size) (hr : RdQ (d + 1) w0 lv l) : MadeR 4 66 (LsO d w0) B (w.alloc (.cells #[.int .i64 0, .int .i64 0, .string ⟨#[]⟩, lv] 66)) (.slice (some ⟨w.heap.size, 0, none⟩) 1 1) [zT l] [w.heap.size] := by
  refine ⟨[.int .i64 0, .int .i64 0, .string ⟨#[]⟩, lv], [[]], ⟨rfl, .inr ⟨w.heap.size, 1, _, rfl, hB, heap_alloc_new w _, Nat.le_refl _, by decide, rfl, rfl⟩⟩, rfl, rfl, ⟨by simp, fun g hg => ?_⟩, fun i x hx => ?_⟩
  · obtain rfl := List.mem_singleton.1 hg
    exact ⟨hB, by simp⟩
  · cases i with
    | zero =>
      simp at hx
      subst hx
      exact ⟨_, [], rfl, rfl, fun j u hu => by simpa using hu, rfl, rfl, lv, rfl, hr⟩
    | succ i => simp at hx

end Go.Proofs.YtkkdnkdkelligaaGreatDoor

/- A machine's own copy: the program's. -/
namespace Go.Proofs.YtkkdnkdkelligaaGreatDoor
open Go.RowKit
set_option linter.unusedVariables false

def VmAns (d : Nat) (v : DVm d) (w : World) (e : Ending) (w' : World) : Prop := ∃ (a0 : Option Addr) (l0 c0 : Nat) (a1 : Option Addr) (l1 c1 : Nat) (fp : List Nat), e = .returned (.agg #[.slice a0 l0 c0, .slice a1 l1 c1]) ∧ VmO d w' [.slice a0 l0 c0, .slice a1 l1 c1] v fp ∧ Fresh w.heap.size w' fp ∧ Below w.heap.size w w'

theorem own_slice' {w : World} {B e z n : Nat} {v : Value} {xs : List Value} (h : w.ownsRow B e z v n xs) : ∃ a l c, v = .slice a l c := by
  rcases h.2 with ⟨rfl, _⟩ | ⟨g, c, cur, rfl, _⟩
  · exact ⟨_, _, _, rfl⟩
  · exact ⟨_, _, _, rfl⟩
theorem three_new (w : World) (a b c : Value) (t : TypeId) : ∀ j u, [a, b, c][j]? = some u → (w.alloc (.cells #[a, b, c] t)).cell? ((⟨w.heap.size, 0, none⟩ : Addr).add j) = some u := by
  intro j u hj
  match j, hj with
  | 0, hj => simp at hj; subst hj; simp [Addr.add]
  | 1, hj => simp at hj; subst hj; simp [Addr.add]
  | 2, hj => simp at hj; subst hj; simp [Addr.add]

/-- What the second loop keeps: the box of the copy, its frames so far. -/
def OvS (d : Nat) (w V : World) (fps : List (List Nat)) (st : Value) (v : DVm d) (wr : World) (fv : Value) (j : Nat) : Prop :=
  wr.heap[V.heap.size]? = some (.cells #[fv, st] 41 (0, 0)) ∧ Below V.heap.size V wr ∧ (∀ g, fv.ownBlock = some g → V.heap.size < g) ∧ ∃ fp, MadeR 3 61 (FrameO d) w.heap.size wr fv (v.Frames.take j) fp ∧ ∀ g ∈ fp, g ∈ ((fps.drop 1).take j).flatten ∨ V.heap.size < g

theorem OvS.later {d : Nat} {w V : World} {fps : List (List Nat)} {st : Value} {v : DVm d} {wr wr' : World} {fv : Value} {j : Nat} (h : OvS d w V fps st v wr fv j) (hb : Below wr.heap.size wr wr') : OvS d w V fps st v wr' fv j := by
  obtain ⟨h1, h2, h5, fp, h3, h4⟩ := h
  have hF : Fresh w.heap.size wr fp := by obtain ⟨_, _, _, _, _, h, _⟩ := h3; exact h
  exact ⟨(hb.block _ (lt_row h1)).trans h1, h2.trans (hb.mono h2.size), h5, fp, h3.frame (FrameO.lasts d) (fun g hg => hb.block g (hF.2 g hg).2) hb.size, h4⟩

theorem OvS.step {d : Nat} {w V X X2 w3 : World} {fps : List (List Nat)} {st : Value} {v : DVm d} {fv v' : Value} {j : Nat} {f : DFrame d} {cs : List Value} {lv : Value} {fs : List Nat} {o : Obj}
    (h : OvS d w V fps st v X fv j) (hX2 : X2 = X.alloc o) (hf : v.Frames[j]? = some f) (hrow : X.ownsRow w.heap.size 61 3 fv j cs) (hfs : fps[j + 1]? = some fs) (hfr : Fresh w.heap.size V fps.flatten) (hO : OwnL (d + 1) V lv f.Slots fs)
    (hown : w3.ownsRow w.heap.size 61 3 v' (j + 1) (cs ++ [.int .i64 f.F, .int .i64 f.Pc, lv])) (hgr : X2.grownBy w3 fv.ownBlock) (hat : v'.ownBlock = fv.ownBlock ∨ v'.ownBlock = some X2.heap.size) :
    w3.cell? ⟨V.heap.size, 0, none⟩ = some fv ∧ w3.frozen? ⟨V.heap.size, 0, none⟩ = false ∧ OvS d w V fps st v (w3.setCell ⟨V.heap.size, 0, none⟩ v') v' (j + 1) := by
  have hbX : Below X.heap.size X X2 := by rw [hX2]; exact (Below.refl _ _).alloc (Nat.le_refl _) _
  have hs := h
  obtain ⟨h1, h2, h5, fp, h3, h4⟩ := h.later hbX
  have hjl : (v.Frames.take j).length = j := by rw [List.length_take]; have := (List.getElem?_eq_some_iff.1 hf).1; omega
  have hF : Fresh w.heap.size X2 fp := by obtain ⟨_, _, _, _, _, h, _⟩ := h3; exact h
  have hrow2 : X2.ownsRow w.heap.size 61 3 fv j cs := rowKept hrow fun g hg => by
    have := hrow.lt g hg
    exact hbX.block g this.2
  have hfsm : ∀ g ∈ fs, g ∈ fps.flatten := fun g hg => List.mem_flatten.2 ⟨fs, List.mem_of_getElem? hfs, hg⟩
  have hndf := hfr.1
  -- the blocks of the parts ahead are others than those of this one
  have hdis : ∀ g ∈ fs, g ∉ ((fps.drop 1).take j).flatten := fun g hg hm => by
    obtain ⟨l, hl1, hl2⟩ := List.mem_flatten.1 hm
    obtain ⟨i, hi, e⟩ := List.getElem_of_mem hl1
    have hi2 : i < j ∧ i + 1 < fps.length := by
      rw [List.length_take, List.length_drop] at hi
      omega
    have e2 : fps[i + 1]? = some l := by
      rw [← e, List.getElem_take, List.getElem_drop, List.getElem?_eq_getElem hi2.2]
      congr 2
      omega
    exact (nodup_fl fps hndf).2 (i + 1) (j + 1) l fs (by omega) e2 hfs g hl2 hg
  have hlow : ∀ g ∈ fps.flatten, g < V.heap.size := fun g hg => (hfr.2 g hg).2
  have hlowd : ∀ g ∈ ((fps.drop 1).take j).flatten, g ∈ fps.flatten := fun g hg => by
    obtain ⟨l, hl1, hl2⟩ := List.mem_flatten.1 hg
    exact List.mem_flatten.2 ⟨l, List.mem_of_mem_drop (List.mem_of_mem_take hl1), hl2⟩
  obtain ⟨fp', hm, hfp'⟩ := h3.step (FrameO.lasts d) (x := f) (f := fs) (cs := cs) (vs := [.int .i64 f.F, .int .i64 f.Pc, lv]) (by rw [hjl]; exact hrow2) ⟨lv, fs, rfl, rfl, hO.frame fun g hg => h2.block g (hlow g (hfsm g hg))⟩ rfl
    ⟨(nodup_fl fps hndf).1 fs (List.mem_of_getElem? hfs), fun g hg => ⟨(hfr.2 g (hfsm g hg)).1, Nat.lt_of_lt_of_le (hlow g (hfsm g hg)) h2.size⟩⟩
    (fun g hg hm => by
      rcases h4 g hm with q | q
      · exact hdis g hg q
      · have := hlow g (hfsm g hg); omega)
    (by rw [hjl]; exact hown) hgr hat
  have hV2 : V.heap.size < X2.heap.size := lt_row h1
  have hnb : some V.heap.size ≠ fv.ownBlock := fun e => by have := h5 _ e.symm; omega
  have n3 : w3.heap[V.heap.size]? = some (.cells #[fv, st] 41 (0, 0)) := (hgr.block _ hV2 hnb).trans h1
  refine ⟨by rw [cell_of_row w3 _ 0 _ _ _ n3]; rfl, frozen_of_row w3 _ _ _ _ n3, ?_, ?_, ?_, fp', ?_, ?_⟩
  · exact (heap_setCell_same w3 V.heap.size 0 _ _ _ n3)
  · refine h2.trans (Below.trans (b := w3) ?_ ?_)
    · exact ⟨hgr.os, hgr.tape, hgr.output, hgr.size, fun k hk => by
        exact hgr.block k (by omega) fun e => by have := h5 _ e.symm; omega⟩
    · exact ⟨rfl, rfl, rfl, by simp, fun k hk => heap_setCell_other _ _ _ _ (by simp; omega)⟩
  · intro g hg
    rcases hat with q | q
    · exact h5 g (by rw [← q]; exact hg)
    · rw [q] at hg
      have : X2.heap.size = g := by simpa using hg
      omega
  · rw [frames_next hf]
    refine hm.frame (FrameO.lasts d) (fun g hg => heap_setCell_other _ _ _ _ ?_) (by simp)
    show g ≠ V.heap.size
    intro e
    subst e
    rcases hfp' _ hg with q | q | q
    · rcases h4 _ q with q | q
      · have := hlow _ (hlowd _ q); omega
      · omega
    · have := hlow _ (hfsm _ q); omega
    · omega
  · intro g hg
    rcases hfp' g hg with q | q | q
    · rcases h4 g q with q | q
      · refine .inl ?_
        obtain ⟨l, hl1, hl2⟩ := List.mem_flatten.1 q
        refine List.mem_flatten.2 ⟨l, ?_, hl2⟩
        obtain ⟨i, hi, e⟩ := List.getElem_of_mem hl1
        rw [List.length_take] at hi
        have : ((fps.drop 1).take (j + 1))[i]? = some l := by
          rw [List.getElem?_take_of_lt (by omega), ← e, List.getElem_take, List.getElem?_eq_getElem]
        exact List.mem_of_getElem? this
      · exact .inr q
    · refine .inl (List.mem_flatten.2 ⟨fs, ?_, q⟩)
      have : ((fps.drop 1).take (j + 1))[j]? = some fs := by
        rw [List.getElem?_take_of_lt (by omega), List.getElem?_drop, Nat.add_comm]
        exact hfs
      exact List.mem_of_getElem? this
    · exact .inr (by omega)

set_option maxRecDepth 100000 in
set_option maxHeartbeats 8000000 in
theorem ownVm_any (d : Nat) (vs : List Value) (v : DVm d) (w : World) (hQ : VmQ d w vs v) (hn : v.Frames.length ≤ 1048576) (hcnt : cntL (d + 2) (lsT v) ≤ 33554432) :
    Calls Tryz.prog 45 #[.agg vs.toArray] w fun e w' => VmAns d v w e w' := by
  obtain ⟨v0, v1, rfl, hF, hS⟩ := hQ
  obtain ⟨b0, k0, rfl⟩ := hF.slice
  have hS1 := hS
  obtain ⟨b1, k1, rfl, _⟩ := hS1
  obtain ⟨n0, hn0⟩ : ∃ n, v.Frames.length = n := ⟨_, rfl⟩
  obtain ⟨n1, hn1⟩ : ∃ n, v.Stack.length = n := ⟨_, rfl⟩
  rw [hn0] at hn hF
  rw [hn1] at hS
  have HL : Hid (v.Frames.length = n0 ∧ v.Stack.length = n1) := ⟨hn0, hn1⟩
  show Calls Tryz.prog _ #[.agg #[.slice b0 v.Frames.length k0, .slice b1 v.Stack.length k1]] w _
  rw [hn0, hn1]
  obtain ⟨W, hW⟩ : ∃ W, W = (w.alloc (.cells #[.slice b0 n0 k0, .slice b1 n1 k1] 41)).alloc (.cells #[.slice none 0 0, .slice none 0 0] 41) := ⟨_, rfl⟩
  have hA : Below w.heap.size w W := by rw [hW]; exact ((Below.refl _ _).alloc (Nat.le_refl _) _).alloc (by simp) _
  have hWs : W.heap.size = w.heap.size + 1 + 1 := by rw [hW]; simp
  have nB : W.heap[w.heap.size + 1]? = some (.cells #[.slice none 0 0, .slice none 0 0] 41 (0, 0)) := by
    rw [hW, show w.heap.size + 1 = (w.alloc (.cells #[.slice b0 n0 k0, .slice b1 n1 k1] 41)).heap.size from by simp]; exact heap_alloc_new _ _
  have nA : W.heap[w.heap.size]? = some (.cells #[.slice b0 n0 k0, .slice b1 n1 k1] 41 (0, 0)) := by
    rw [hW, (((Below.refl _ _).alloc (Nat.le_refl _) _).block w.heap.size (by simp))]; exact heap_alloc_new _ _
  obtain ⟨L1, hL1⟩ : ∃ X, X = W.alloc (.cells #[.int .i64 0, .int .i64 0, .string ⟨#[]⟩, .slice b1 n1 k1] 66) := ⟨_, rfl⟩
  have hBL : Below W.heap.size W L1 := by rw [hL1]; exact (Below.refl _ _).alloc (Nat.le_refl _) _
  have hM0 : MadeR 4 66 (LsO d w) W.heap.size L1 (.slice (some ⟨W.heap.size, 0, none⟩) 1 1) [zT v.Stack] [W.heap.size] := by rw [hL1]; exact LsO.one (Nat.le_refl _) hS
  have HM0 : Hid (_) := hM0
  have HB : Hid (Below w.heap.size w W) := hA
  have HBL : Hid (Below W.heap.size W L1) := hBL
  have HBX : Hid (∀ V : World, Below W.heap.size W V → V.cell? ⟨w.heap.size, 0, none⟩ = some (.slice b0 n0 k0) ∧ V.cell? ⟨w.heap.size, 1, none⟩ = some (.slice b1 n1 k1) ∧ w.heap.size < V.heap.size ∧ V.heap[w.heap.size + 1]? = some (.cells #[.slice none 0 0, .slice none 0 0] 41 (0, 0)) ∧ w.heap.size + 1 < V.heap.size) := fun V hV => by
    have mA := (hV.block _ (lt_row nA)).trans nA
    have mB := (hV.block _ (lt_row nB)).trans nB
    exact ⟨by rw [cell_of_row V _ 0 _ _ _ mA]; rfl, by rw [cell_of_row V _ 1 _ _ _ mA]; rfl, lt_row mA, mB, lt_row mB⟩
  have HF : Hid (RowOf 3 (FrameQ d) w (.slice b0 n0 k0) v.Frames) := hF
  have HCN : Hid (cntL (d + 2) (lsT v) ≤ 33554432) := hcnt
  obtain ⟨i0, hi, hi0, hi1, hi2⟩ := info_parts Tryz.infoTerm
  clear hF hS nA nB hA hBL hn0 hn1 hM0 hcnt
  have HWs : Hid (W.heap.size = w.heap.size + 1 + 1) := hWs
  clear hWs
  go_enter Tryz.func45, Tryz.ntmps45
  go_wp2_with fail
  rw [show w.heap.size + 1 + 1 = W.heap.size from HWs.out.symm]
  rw [← hW, ← hL1]
  clear hW hL1
  go_loopw [3, 16] (fun lv i wr => ∃ (j : Nat) (fp : List Nat), j ≤ n0 ∧ i = .int .i64 j ∧ Hid (MadeR 4 66 (LsO d w) W.heap.size wr lv ((lsT v).take (j + 1)) fp) ∧ Hid (Below W.heap.size W wr)) (fun _ i _ => n0 - (intOf i).toNat)
  case atStart => exact ⟨0, _, Nat.zero_le _, rfl, HM0, HBL⟩
  case round =>
    obtain ⟨j, fp, hj, rfl, HM, HBj⟩ := hrel
    have HBW : Hid (Below w.heap.size w wr) := HB.out.trans (HBj.out.mono HB.out.size)
    obtain ⟨y0, y1, hwl, _, _⟩ := HBX.out wr HBj.out
    obtain ⟨cs, hrow⟩ := HM.out.row
    have hlen : ((lsT v).take (j + 1)).length = j + 1 := by rw [List.length_take, lsT_len, HL.out.1]; omega
    rw [hlen] at hrow
    clear hlen
    by_cases hjl : j < n0
    · obtain ⟨f, hf⟩ : ∃ x, v.Frames[j]? = some x := ⟨_, List.getElem?_eq_getElem (by have := HL.out.1; omega)⟩
      obtain ⟨b, o, a2, c2, rfl, f0, f1, f2, hsl⟩ := FrameQ_at HF.out j f hf
      have f0' := cell_later HBW.out f0
      have f1' := cell_later HBW.out f1
      have f2' := cell_later HBW.out f2
      have hjl' : (j : Int) < (n0 : Int) := by omega
      have hbl : b < wr.heap.size := by have := World.block_lt_of_cell? wr _ f0'; simpa using this
      obtain ⟨sl, hslen⟩ : ∃ n, f.Slots.length = n := ⟨_, rfl⟩
      rw [hslen] at f2' hsl
      have HX : Hid (v.Frames[j]? = some f ∧ RdQ (d + 1) w (.slice a2 sl c2) f.Slots) := ⟨hf, hsl⟩
      obtain ⟨X, hX⟩ : ∃ X, X = wr.alloc (.cells #[.int .i64 f.F, .int .i64 f.Pc, .slice a2 sl c2] 61) := ⟨_, rfl⟩
      have bX : Below wr.heap.size wr X := by rw [hX]; exact (Below.refl _ _).alloc (Nat.le_refl _) _
      obtain ⟨X2, hX2⟩ : ∃ Y, Y = X.alloc (.cells #[.int .i64 0, .int .i64 0, .string ⟨#[]⟩, .slice a2 sl c2] 66) := ⟨_, rfl⟩
      have bX2 : Below wr.heap.size wr X2 := by rw [hX2]; exact bX.trans ((Below.refl _ _).alloc bX.size _)
      have hXs : X.heap.size = wr.heap.size + 1 := by rw [hX]; simp
      have hX2s : X2.heap.size = wr.heap.size + 1 + 1 := by rw [hX2]; simp [hXs]
      have hrow2 : X2.ownsRow W.heap.size 66 4 u3 (j + 1) cs := rowKept hrow fun g hg => by have := hrow.lt g hg; exact bX2.block g this.2
      have hWwr : W.heap.size ≤ wr.heap.size := HBj.out.size
      have HST : Hid (∀ (v' : Value) (w3 : World), w3.ownsRow W.heap.size 66 4 v' (j + 1 + 1) (cs ++ [.int .i64 0, .int .i64 0, .string ⟨#[]⟩, .slice a2 sl c2]) → X2.grownBy w3 u3.ownBlock → (v'.ownBlock = u3.ownBlock ∨ v'.ownBlock = some (wr.heap.size + 1 + 1)) → ∃ fp', Hid (MadeR 4 66 (LsO d w) W.heap.size w3 v' ((lsT v).take (j + 1 + 1)) fp') ∧ Hid (Below W.heap.size W w3)) := fun v' w3 g1 g2 g3 => by
        have hF4 : Fresh W.heap.size wr fp := by obtain ⟨_, _, _, _, _, h, _⟩ := HM.out; exact h
        have hlen : ((lsT v).take (j + 1)).length = j + 1 := by rw [List.length_take, lsT_len, HL.out.1]; omega
        have hM2 := HM.out.frame (LsO.lasts d w) (fun g hg => bX2.block g (hF4.2 g hg).2) bX2.size
        obtain ⟨fp', q1, _⟩ := hM2.step (LsO.lasts d w) (x := zT f.Slots) (f := []) (cs := cs) (vs := [.int .i64 0, .int .i64 0, .string ⟨#[]⟩, .slice a2 sl c2]) (by rw [hlen]; exact hrow2) ⟨rfl, rfl, _, rfl, HX.out.2⟩ rfl ⟨List.nodup_nil, fun g h => by cases h⟩ (fun g h => by cases h) (by rw [hlen]; exact g1) g2 (by rw [hX2s]; exact g3)
        rw [← lsT_next HX.out.1] at q1
        refine ⟨fp', q1, ?_⟩
        have k1 : Below W.heap.size W X2 := HBj.out.trans (bX2.mono hWwr)
        exact k1.trans (grown_belowB g2 (by omega) fun g hg => (hrow.lt g hg).1)
      have hc1 : ∀ j' u, [Value.int .i64 0, .int .i64 0, .string ⟨#[]⟩, .slice a2 sl c2][j']? = some u → X2.cell? ((⟨wr.heap.size + 1, 0, none⟩ : Addr).add j') = some u := by rw [hX2, ← hXs]; exact four_new _ _ _ _ _ _
      have HX2 : Hid (X2 = (wr.alloc (.cells #[.int .i64 f.F, .int .i64 f.Pc, .slice a2 sl c2] 61)).alloc (.cells #[.int .i64 0, .int .i64 0, .string ⟨#[]⟩, .slice a2 sl c2] 66)) := by rw [hX] at hX2; exact hX2
      rw [HX2.out] at hrow2 hc1
      clear hf hsl hX hX2 bX bX2 hXs hX2s hrow f0 f1 f2 HM
      go_wp2_with (at_builtin; refine wpList_append_own_at _ rfl (.tmp 20) (.tmp 24) 39 rfl W.heap.size 66 i0 (.agg #[.int .i64 0, .int .i64 0, .string ⟨#[]⟩, .slice none 0 0]) 4 56 Tryz.underlying39 hi hi0 hi1 hi2 rfl (by decide) _ _ _ rfl hrow2 ⟨wr.heap.size + 1, 0, none⟩ 1 1 [.int .i64 0, .int .i64 0, .string ⟨#[]⟩, .slice a2 sl c2] rfl rfl hc1 (by intro u hu; simp at hu; rcases hu with rfl | rfl | rfl | rfl <;> rfl) (by unfold maxLen; omega) (by omega) (by simp; omega) ?_)
      intro v' w3 hown3 hgrow3 _ hat
      rw [← HX2.out] at hgrow3
      obtain ⟨fp', HM3, HB3⟩ := HST.out v' w3 hown3 hgrow3 hat
      clear hown3 hgrow3 hat HST hrow2 hc1 y0 y1 f0' f1' f2'
      go_wp2_with fail
      go_roundw
      case rel => exact ⟨j + 1, fp', by omega, by go_num, HM3, HB3⟩
      case measure => simp [intOf]; omega
    · obtain rfl : j = n0 := by omega
      have hjl' : decide ((j : Int) < (j : Int)) = false := by simp
      have hall : (lsT v).take (j + 1) = lsT v := by rw [← HL.out.1, ← lsT_len]; exact List.take_length
      have hM := HM.out
      rw [hall] at hM
      have hlen : (lsT v).length = j + 1 := by rw [lsT_len, HL.out.1]
      have hC := ownTerms_some (d + 1) u3 (lsT v) wr (ls_rdq hM (by simp [lsT]) HBW.out) (by simp [lsT]) HCN.out
      rw [hlen] at hC
      obtain ⟨wo, hwo⟩ : ∃ X, X = wr := ⟨_, rfl⟩
      subst hwo
      have hjj : j ≤ 1048576 := hn
      clear hM hall hrow HM
      go_wp2_with fail
      refine hC.mono ?_
      clear hC
      rintro e V ⟨g, c, fp2, rfl, hO, hFr, hB⟩
      have HVW : Hid (Below W.heap.size W V) := HBj.out.trans (hB.mono HBj.out.size)
      have HVw : Hid (Below w.heap.size w V) := HBW.out.trans (hB.mono HBW.out.size)
      rcases hO with ⟨h0, _⟩ | ⟨g', c', cur, fps, h1, h2, h3, rfl, h4⟩
      · simp [lsT] at h0
      rw [hlen] at h1
      cases h1
      have HFR : Hid (Fresh w.heap.size V fps.flatten) := ⟨(List.nodup_cons.1 hFr.1).2, fun x hx => ⟨Nat.le_trans HBW.out.size (hFr.2 x (List.mem_cons_of_mem _ hx)).1, (hFr.2 x (List.mem_cons_of_mem _ hx)).2⟩⟩
      have HFRW : Hid (∀ x ∈ fps.flatten, W.heap.size ≤ x) := fun x hx => Nat.le_trans HBj.out.size (hFr.2 x (List.mem_cons_of_mem _ hx)).1
      obtain ⟨lv0, fs0, q0, _, _, _, q4, q5⟩ := h4 0 (zT v.Stack) rfl
      obtain ⟨sa, sn, sc, rfl⟩ := q5.rd.shape
      have HST0 : Hid (fps[0]? = some fs0 ∧ OwnL (d + 1) V (.slice sa sn sc) v.Stack fs0) := ⟨q0, q5⟩
      have c3 : V.cell? ⟨g, 3, none⟩ = some (.slice sa sn sc) := by rw [cell_of_row V _ 3 _ _ _ h2]; exact q4
      have HPT : Hid (∀ (i : Nat) (f : DFrame d), v.Frames[i]? = some f → ∃ la ll lc fs, fps[i + 1]? = some fs ∧ OwnL (d + 1) V (.slice la ll lc) f.Slots fs ∧ ∀ Z : World, Below V.heap.size V Z → Z.cell? ⟨g, (i + 1) * 4 + 3, none⟩ = some (.slice la ll lc)) := fun i f hf => by
        obtain ⟨lv, fs, r0, _, _, _, r4, r5⟩ := h4 (i + 1) (zT f.Slots) (by simp [lsT, hf])
        obtain ⟨la, ll, lc, rfl⟩ := r5.rd.shape
        refine ⟨la, ll, lc, fs, r0, r5, fun Z hZ => ?_⟩
        have m2 := (hZ.block _ (lt_row h2)).trans h2
        rw [cell_of_row Z _ _ _ _ _ m2]
        exact r4
      have hgl : g < V.heap.size := lt_row h2
      obtain ⟨y0, y1, hwl, nR, hwl1⟩ := HBX.out V HVW.out
      obtain ⟨Y, hY⟩ : ∃ Y, Y = V.alloc (.cells #[.slice none 0 0, .slice sa sn sc] 41) := ⟨_, rfl⟩
      have HOS : Hid (OvS d w V fps (.slice sa sn sc) v Y (.slice none 0 0) 0) := by
        rw [hY]
        exact ⟨heap_alloc_new V _, (Below.refl _ _).alloc (Nat.le_refl _) _, (fun g hg => by cases hg), [], by simpa using MadeR.nil _ _, fun g hg => by cases hg⟩
      have HBVY : Hid (Below V.heap.size V Y) := by rw [hY]; exact (Below.refl _ _).alloc (Nat.le_refl _) _
      clear h2 h3 h4 hFr hB q0 q4 q5 hlen
      go_wp2_with fail
      rw [← hY]
      clear hY c3 y0 y1
      obtain ⟨j0, hj, hj0, hj1, hj2⟩ := info_parts Tryz.infoFrame
      go_loopw [37] (fun i wr => ∃ (k : Nat) (fv : Value), k ≤ j ∧ i = .int .i64 k ∧ Hid (OvS d w V fps (.slice sa sn sc) v wr fv k)) (fun i _ => j - (intOf i).toNat)
      case atStart => exact ⟨0, _, Nat.zero_le _, rfl, HOS⟩
      case round =>
        obtain ⟨k, fv, hk, rfl, HO⟩ := hrel
        have hbV : Below V.heap.size V wr := HO.out.2.1
        have HBw2 : Hid (Below w.heap.size w wr) := HVw.out.trans (hbV.mono HVw.out.size)
        have HBW2 : Hid (Below W.heap.size W wr) := HVW.out.trans (hbV.mono HVW.out.size)
        obtain ⟨cs, hrow⟩ : ∃ cs, wr.ownsRow w.heap.size 61 3 fv k cs := by
          obtain ⟨_, _, _, fp, hm, _⟩ := HO.out
          obtain ⟨cs, h⟩ := hm.row
          rw [List.length_take, HL.out.1, Nat.min_eq_left hk] at h
          exact ⟨cs, h⟩
        obtain ⟨tva, tvl, tvc, rfl⟩ := own_slice' hrow
        obtain ⟨y0, y1, hwl', nR', hwl1'⟩ := HBX.out wr HBW2.out
        have nO := HO.out.1
        have o0 : wr.cell? ⟨V.heap.size, 0, none⟩ = some (.slice tva tvl tvc) := by rw [cell_of_row wr _ 0 _ _ _ nO]; rfl
        have o1 : wr.cell? ⟨V.heap.size, 1, none⟩ = some (.slice sa sn sc) := by rw [cell_of_row wr _ 1 _ _ _ nO]; rfl
        have hVl : V.heap.size < wr.heap.size := lt_row nO
        by_cases hkl : k < j
        · obtain ⟨f, hf⟩ : ∃ x, v.Frames[k]? = some x := ⟨_, List.getElem?_eq_getElem (by have := HL.out.1; omega)⟩
          obtain ⟨b, o, a2, c2, rfl, f0, f1, f2, hsl⟩ := FrameQ_at HF.out k f hf
          have f0' := cell_later HBw2.out f0
          have f1' := cell_later HBw2.out f1
          have f2' := cell_later HBw2.out f2
          have hkl' : (k : Int) < (j : Int) := by omega
          have hbl : b < wr.heap.size := by have := World.block_lt_of_cell? wr _ f0'; simpa using this
          obtain ⟨la, ll, lc, fs, r0, r1, r2⟩ := HPT.out k f hf
          have gl := r2 wr hbV
          have hgl2 : g < wr.heap.size := Nat.lt_of_lt_of_le hgl hbV.size
          obtain ⟨sl, hslen⟩ : ∃ n, f.Slots.length = n := ⟨_, rfl⟩
          rw [hslen] at f2'
          obtain ⟨X, hX⟩ : ∃ X, X = wr.alloc (.cells #[.int .i64 f.F, .int .i64 f.Pc, .slice a2 sl c2] 61) := ⟨_, rfl⟩
          have bX : Below wr.heap.size wr X := by rw [hX]; exact (Below.refl _ _).alloc (Nat.le_refl _) _
          have hXs : X.heap.size = wr.heap.size + 1 := by rw [hX]; simp
          have nX : X.heap[wr.heap.size]? = some (.cells #[.int .i64 f.F, .int .i64 f.Pc, .slice a2 sl c2] 61 (0, 0)) := by rw [hX]; exact heap_alloc_new wr _
          have x0 : X.cell? ⟨wr.heap.size, 0, none⟩ = some (.int .i64 f.F) := by rw [cell_of_row X _ 0 _ _ _ nX]; rfl
          have x1 : X.cell? ⟨wr.heap.size, 1, none⟩ = some (.int .i64 f.Pc) := by rw [cell_of_row X _ 1 _ _ _ nX]; rfl
          have xo := cell_later bX o0
          have xg := cell_later bX gl
          have zo : X.frozen? ⟨V.heap.size, 0, none⟩ = false := frozen_of_row X _ _ _ _ ((bX.block _ hVl).trans nO)
          have hVX : V.heap.size < X.heap.size := by omega
          have hgX : g < X.heap.size := by omega
          have hwX : wr.heap.size < X.heap.size := by omega
          have hOX : OvS d w V fps (.slice sa sn sc) v X (.slice tva tvl tvc) k := HO.out.later bX
          have hrowX : X.ownsRow w.heap.size 61 3 (.slice tva tvl tvc) k cs := rowKept hrow fun g hg => by have := hrow.lt g hg; exact bX.block g this.2
          obtain ⟨m, hm⟩ : ∃ m, k + 1 = m := ⟨_, rfl⟩
          have wrj : IntKind.i64.wrap ((k : Int) + 1) = (m : Int) := by rw [wrapI_in _ (by omega)]; omega
          have hmj : m < j + 1 := by omega
          have hmj' : (m : Int) < (j : Int) + 1 := by omega
          have HAP : Hid (∀ (v' : Value) (w3 : World), w3.ownsRow w.heap.size 61 3 v' (k + 1) (cs ++ [.int .i64 f.F, .int .i64 f.Pc, .slice la ll lc]) → (X.alloc (.cells #[.int .i64 f.F, .int .i64 f.Pc, .slice la ll lc] 61)).drew.grownBy w3 (Value.slice tva tvl tvc).ownBlock → (v'.ownBlock = (Value.slice tva tvl tvc).ownBlock ∨ v'.ownBlock = some (X.alloc (.cells #[.int .i64 f.F, .int .i64 f.Pc, .slice la ll lc] 61)).drew.heap.size) →
              w3.cell? ⟨V.heap.size, 0, none⟩ = some (.slice tva tvl tvc) ∧ w3.frozen? ⟨V.heap.size, 0, none⟩ = false ∧ Hid (OvS d w V fps (.slice sa sn sc) v (w3.setCell ⟨V.heap.size, 0, none⟩ v') v' (k + 1))) := fun v' w3 g1 g2 g3 =>
            OvS.step (X2 := X.alloc (.cells #[.int .i64 f.F, .int .i64 f.Pc, .slice la ll lc] 61)) hOX rfl hf hrowX r0 HFR.out r1 g1 ⟨g2.os, g2.tape, g2.output, g2.size, g2.block⟩ g3
          rw [hm] at xg
          have hwX0 : w.heap.size ≤ X.heap.size := by omega
          have HXE : Hid (X = _) := hX
          have hkb : k ≤ 1048576 := by omega
          clear hX bX nX hf f0 f1 f2 hsl r0 r1 r2 gl hOX nO hbV
          go_wp2_with fail
          rw [← HXE.out]
          clear HXE o0 o1 y0 y1 f0' f1' f2' hrow HO
          go_region_law (refine step_append_own rfl (.tmp 43) (.tmp 55) 38 rfl w.heap.size 61 j0 (.agg #[.int .i64 0, .int .i64 0, .slice none 0 0]) 3 40 Tryz.underlying38 hj hj0 hj1 hj2 rfl (by decide) (.slice tva tvl tvc) k cs (by simp [Act.eval]) (hrowX.alloc _) ⟨X.heap.size, 0, none⟩ 1 1 [.int .i64 f.F, .int .i64 f.Pc, .slice la ll lc] (by simp [Act.eval]) rfl (three_new X _ _ _ _) (by intro u hu; simp at hu; rcases hu with rfl | rfl | rfl <;> rfl) (by unfold maxLen; omega) (by omega) (by simp; omega) ?_; intro v' w3 hown3 hgrow3 hat3; obtain ⟨ta, tl, tc, rfl⟩ := own_slice' hown3; obtain ⟨t1, t2, HS3⟩ := HAP.out _ _ hown3 hgrow3 hat3)
          all_goals
            clear hown3 hgrow3 hat3 HAP hrowX x0 x1 xo xg zo
            go_wp2_with fail
            go_roundw
            case rel => exact ⟨k + 1, _, by omega, by go_num, HS3⟩
            case measure => simp [intOf]; omega
        · obtain rfl : k = j := by omega
          have hkl' : decide ((k : Int) < (k : Int)) = false := by simp
          have hz0 : wr.frozen? ⟨w.heap.size + 1, 0, none⟩ = false := frozen_of_row wr _ _ _ _ nR'
          have hz1 : wr.frozen? ⟨w.heap.size + 1, 1, none⟩ = false := frozen_of_row wr _ _ _ _ nR'
          have e0 : wr.cell? ⟨w.heap.size + 1, 0, none⟩ = some (.slice none 0 0) := by rw [cell_of_row wr _ 0 _ _ _ nR']; rfl
          have e1 : wr.cell? ⟨w.heap.size + 1, 1, none⟩ = some (.slice none 0 0) := by rw [cell_of_row wr _ 1 _ _ _ nR']; rfl
          have HEND : Hid (∀ Z : World, Z.heap.size = wr.heap.size → (∀ i, i ≠ w.heap.size + 1 → Z.heap[i]? = wr.heap[i]?) → Z.os = wr.os → Z.tape = wr.tape → Z.output = wr.output → ∃ fpA, VmO d Z [.slice tva tvl tvc, .slice sa sn sc] v fpA ∧ Fresh w.heap.size Z fpA ∧ Below w.heap.size w Z) := fun Z hZs hZ ho ht hp => by
            obtain ⟨_, hb2, h5, fp, hm, h4⟩ := HO.out
            have hall : v.Frames.take k = v.Frames := by rw [← HL.out.1]; exact List.take_length
            rw [hall] at hm
            obtain ⟨a, l, c, fp', e, hr, hfr, hin⟩ := hm.own_in
            have hW1 := HWs.out
            have hge : ∀ x ∈ fps.flatten, w.heap.size + 1 < x ∧ x < V.heap.size := fun x hx => by
              have h6 := HFRW.out x hx
              have h7 := HFR.out.2 x hx
              omega
            have hd1 : ∀ x ∈ ((fps.drop 1).take k).flatten, x ∈ fps.flatten := fun x hx => by
              obtain ⟨l, hl1, hl2⟩ := List.mem_flatten.1 hx
              exact List.mem_flatten.2 ⟨l, List.mem_of_mem_drop (List.mem_of_mem_take hl1), hl2⟩
            have hlo : ∀ x ∈ fp', w.heap.size + 1 < x := fun x hx => by
              rcases h4 x (hin x hx) with q | q
              · exact (hge x (hd1 x q)).1
              · omega
            have hs0 : ∀ x ∈ fs0, x ∈ fps.flatten := fun x hx => List.mem_flatten.2 ⟨fs0, List.mem_of_getElem? HST0.out.1, hx⟩
            refine ⟨fp' ++ fs0, ⟨_, _, fp', fs0, rfl, rfl, hr.frame (FrameO.lasts d) fun x hx => hZ x (by have := hlo x hx; omega), (HST0.out.2.frame fun x hx => hb2.block x (hge x (hs0 x hx)).2).frame fun x hx => hZ x (by have := (hge x (hs0 x hx)).1; omega)⟩, ⟨List.nodup_append.2 ⟨hfr.1, (nodup_fl fps HFR.out.1).1 fs0 (List.mem_of_getElem? HST0.out.1), fun a ha b hb e => ?_⟩, fun x hx => ?_⟩, ?_⟩
            · subst e
              rcases h4 a (hin a ha) with q | q
              · obtain ⟨l2, hl1, hl2⟩ := List.mem_flatten.1 q
                obtain ⟨i, hi, e⟩ := List.getElem_of_mem hl1
                have hi2 : i + 1 < fps.length := by
                  rw [List.length_take, List.length_drop] at hi
                  omega
                have e2 : fps[i + 1]? = some l2 := by
                  rw [← e, List.getElem_take, List.getElem_drop, List.getElem?_eq_getElem hi2]
                  congr 2
                  omega
                exact (nodup_fl fps HFR.out.1).2 0 (i + 1) fs0 l2 (by omega) HST0.out.1 e2 a hb hl2
              · have := (hge a (hs0 a hb)).2; omega
            · rw [hZs]
              rcases List.mem_append.1 hx with q | q
              · exact ⟨(hfr.2 x q).1, (hfr.2 x q).2⟩
              · exact ⟨by have := (hge x (hs0 x q)).1; omega, by have := (hge x (hs0 x q)).2; omega⟩
            · exact HBw2.out.trans ⟨ho, ht, hp, by omega, fun i hi => hZ i (by omega)⟩
          clear nR nR' nO hbV hrow HO
          go_wp2_with fail
          obtain ⟨Z, hZ⟩ : ∃ Z, Z = (wr.setCell ⟨w.heap.size + 1, 0, none⟩ (.slice tva tvl tvc)).setCell ⟨w.heap.size + 1, 1, none⟩ (.slice sa sn sc) := ⟨_, rfl⟩
          obtain ⟨fpA, r1, r2, r3⟩ := HEND.out Z (by rw [hZ]; simp) (fun i hi => by rw [hZ, heap_setCell_other _ _ _ _ (by simpa using hi), heap_setCell_other _ _ _ _ (by simpa using hi)]) (by rw [hZ]; rfl) (by rw [hZ]; rfl) (by rw [hZ]; rfl)
          rw [hZ] at r1 r2 r3
          refine bodyPost_ret (v := .agg #[.slice tva tvl tvc, .slice sa sn sc]) (by first | (simp [results, Tryz.results45, go_sem, e0, e1]; done) | (simp [results, Tryz.results45, go_sem, e0, e1]; rfl)) rfl ⟨tva, tvl, tvc, sa, sn, sc, fpA, rfl, r1, r2, r3⟩

end Go.Proofs.YtkkdnkdkelligaaGreatDoor

/- A copy of a row of wide elements; rows that are made; slots: what a call begins with. -/
namespace Go.Proofs.YtkkdnkdkelligaaGreatDoor
open Go.RowKit
set_option linter.unusedVariables false

theorem run_copy_wide {P : Program} (w : World) (dT sT ty elem : TypeId) (g o dLen dCap : Nat) (a : Addr) (sLen sCap n k : Nat) (cur : Array Value) (t : TypeId) (cs : List Value)
    (hu : P.underlying dT = some (.slice elem)) (hs : (P.info? elem).map (·.size) = some k)
    (hg : w.heap[g]? = some (.cells cur t (0, 0))) (hn : Nat.min sLen dLen = n) (hcs : cs.length = n * k)
    (hsrc : ∀ j v, cs[j]? = some v → w.cell? (a.add j) = some v) (hfit : o + cs.length ≤ cur.size) (h1 : ∀ v ∈ cs, v.oneCell' = true) :
    (Builtin.copy_ #[dT, sT] ty #[.slice (some ⟨g, o, none⟩) dLen dCap, .slice (some a) sLen sCap]).run P w =
      .ok (goInt n) (w.setRow g (cur.toList.take o ++ cs ++ cur.toList.drop (o + cs.length)).toArray) := by
  have hl := run_loadCells_list (P := P) w a cs hsrc
  have hst := run_storeCells_at P g o t cs 0 cur w hg (by simpa using hfit) h1
  cases hq : P.info? elem with
  | none => simp [hq] at hs
  | some i =>
    have hi : i.size = k := by simpa [hq] using hs
    simp [Builtin.copy_, run_underlying hu, Builtin.lenOf, Builtin.firstCells, sizeOf, typeInfo, hq, hi, hn, ← hcs, hl, hst]
theorem run_copy_zero {P : Program} (w : World) (dT sT ty elem : TypeId) (d a : Option Addr) (dLen dCap sLen sCap k : Nat) (hu : P.underlying dT = some (.slice elem)) (hs : (P.info? elem).map (·.size) = some k) (hn : Nat.min sLen dLen = 0) :
    (Builtin.copy_ #[dT, sT] ty #[.slice d dLen dCap, .slice a sLen sCap]).run P w = .ok (goInt 0) w := by
  cases hq : P.info? elem with
  | none => simp [hq] at hs
  | some i =>
    have hl : ∀ (x : Addr), (loadCells x 0).run P w = .ok #[] w := fun x => by simpa using run_loadCells_list (P := P) w x [] (by simp)
    cases d <;> cases a <;> simp [Builtin.copy_, run_underlying hu, Builtin.lenOf, Builtin.firstCells, sizeOf, typeInfo, hq, hn, storeCells, hl]

def zeroTm (d : Nat) : Tm (d + 1) := mkT 0 0 ⟨#[]⟩ []
def slotsD {d : Nat} (args : List (Tm (d + 1))) (S : Nat) : List (Tm (d + 1)) := args ++ List.replicate (S - args.length) (zeroTm d)
theorem slotsD_len {d : Nat} {args : List (Tm (d + 1))} {S : Nat} (h : args.length ≤ S) : (slotsD args S).length = S := by simp [slotsD]; omega

theorem made4 (S : Nat) : (madeCells (Value.agg #[.int .i64 0, .int .i64 0, .string ⟨#[]⟩, .slice none 0 0]).cells (S * 4)).size = S * 4 ∧
    ∀ i, i < S → (madeCells (Value.agg #[.int .i64 0, .int .i64 0, .string ⟨#[]⟩, .slice none 0 0]).cells (S * 4))[i * 4]? = some (.int .i64 0) ∧ (madeCells (Value.agg #[.int .i64 0, .int .i64 0, .string ⟨#[]⟩, .slice none 0 0]).cells (S * 4))[i * 4 + 1]? = some (.int .i64 0) ∧
      (madeCells (Value.agg #[.int .i64 0, .int .i64 0, .string ⟨#[]⟩, .slice none 0 0]).cells (S * 4))[i * 4 + 2]? = some (.string ⟨#[]⟩) ∧ (madeCells (Value.agg #[.int .i64 0, .int .i64 0, .string ⟨#[]⟩, .slice none 0 0]).cells (S * 4))[i * 4 + 3]? = some (.slice none 0 0) := by
  refine ⟨by simp [madeCells], fun i hi => ?_⟩
  have e : ∀ j, j < 4 → (i * 4 + j) % 4 = j := fun j hj => by omega
  have hsz : (Value.agg #[.int .i64 0, .int .i64 0, .string ⟨#[]⟩, .slice none 0 0]).cells = #[.int .i64 0, .int .i64 0, .string ⟨#[]⟩, .slice none 0 0] := rfl
  rw [hsz]
  have h0 := e 0 (by omega)
  have h1 := e 1 (by omega)
  have h2 := e 2 (by omega)
  have h3 := e 3 (by omega)
  simp only [madeCells]
  refine ⟨?_, ?_, ?_, ?_⟩
  · have : i * 4 < S * 4 := by omega
    simp [this]
  · have : i * 4 + 1 < S * 4 := by omega
    simp [this, h1]
  · have : i * 4 + 2 < S * 4 := by omega
    simp [this, h2]
  · have : i * 4 + 3 < S * 4 := by omega
    simp [this, h3]

/-- Slots whose first are copied from a list. -/
theorem slots_rdq {d : Nat} {w0 w : World} {g S : Nat} {args : List (Tm (d + 1))} {news : List Value} (hn : args.length ≤ S) (hb : Below w0.heap.size w0 w)
    (hnl : news.length = args.length * 4) (hne : ∀ (i : Nat) (t : Tm (d + 1)), args[i]? = some t → ∃ lv, news[i * 4]? = some (.int .i64 t.K) ∧ news[i * 4 + 1]? = some (.int .i64 t.N) ∧ news[i * 4 + 2]? = some (.string t.S) ∧ news[i * 4 + 3]? = some lv ∧ RdQ d w0 lv t.L)
    (hg : w.heap[g]? = some (.cells (news ++ (madeCells (Value.agg #[.int .i64 0, .int .i64 0, .string ⟨#[]⟩, .slice none 0 0]).cells (S * 4)).toList.drop news.length).toArray 66 (0, 0))) :
    RdQ (d + 1) w (.slice (some ⟨g, 0, none⟩) S S) (slotsD args S) := by
  refine ⟨_, S, by rw [slotsD_len hn], fun i t ht => ?_⟩
  have hcell : ∀ j, w.cell? ⟨g, 0 + j, none⟩ = (news ++ (madeCells (Value.agg #[.int .i64 0, .int .i64 0, .string ⟨#[]⟩, .slice none 0 0]).cells (S * 4)).toList.drop news.length)[j]? := fun j => by
    rw [Nat.zero_add, cell_of_row w _ _ _ _ _ hg, List.getElem?_toArray]
  by_cases hi : i < args.length
  · have ht' : args[i]? = some t := by
      unfold slotsD at ht
      rw [List.getElem?_append_left hi] at ht
      exact ht
    obtain ⟨lv, q0, q1, q2, q3, q4⟩ := hne i t ht'
    have hl : ∀ j, j < 4 → i * 4 + j < news.length := fun j hj => by omega
    refine ⟨g, 0, lv, rfl, ⟨_, _, hg⟩, ⟨?_, ?_, ?_, ?_⟩, q4.later hb⟩
    · rw [hcell, List.getElem?_append_left (by have := hl 0 (by omega); omega)]; exact q0
    · rw [Nat.add_assoc, hcell, List.getElem?_append_left (hl 1 (by omega))]; exact q1
    · rw [Nat.add_assoc, hcell, List.getElem?_append_left (hl 2 (by omega))]; exact q2
    · rw [Nat.add_assoc, hcell, List.getElem?_append_left (hl 3 (by omega))]; exact q3
  · have hi2 : i < S := by have := (List.getElem?_eq_some_iff.1 ht).1; rw [slotsD_len hn] at this; exact this
    have ht' : t = zeroTm d := by
      unfold slotsD at ht
      rw [List.getElem?_append_right (by omega)] at ht
      have := List.mem_of_getElem? ht
      exact (List.mem_replicate.1 this).2
    subst ht'
    obtain ⟨_, hm⟩ := made4 S
    obtain ⟨m0, m1, m2, m3⟩ := hm i hi2
    have hge : ∀ j, news.length ≤ i * 4 + j := fun j => by omega
    have hdr : ∀ j, (news ++ (madeCells (Value.agg #[.int .i64 0, .int .i64 0, .string ⟨#[]⟩, .slice none 0 0]).cells (S * 4)).toList.drop news.length)[i * 4 + j]? = (madeCells (Value.agg #[.int .i64 0, .int .i64 0, .string ⟨#[]⟩, .slice none 0 0]).cells (S * 4))[i * 4 + j]? := fun j => by
      rw [List.getElem?_append_right (hge j), List.getElem?_drop, Array.getElem?_toList]
      congr 1
      have := hge j
      omega
    refine ⟨g, 0, .slice none 0 0, rfl, ⟨_, _, hg⟩, ⟨?_, ?_, ?_, ?_⟩, ?_⟩
    · rw [hcell, show i * 4 = i * 4 + 0 from rfl, hdr]; exact m0
    · rw [Nat.add_assoc, hcell, hdr]; exact m1
    · rw [Nat.add_assoc, hcell, hdr]; exact m2
    · rw [Nat.add_assoc, hcell, hdr]; exact m3
    · show RdQ d w (.slice none 0 0) []
      cases d with
      | zero => exact ⟨none, 0, rfl⟩
      | succ d => exact ⟨none, 0, rfl, fun i t h => by simp at h⟩

end Go.Proofs.YtkkdnkdkelligaaGreatDoor

/- A new machine: the program's. -/
namespace Go.Proofs.YtkkdnkdkelligaaGreatDoor
open Go.RowKit
set_option linter.unusedVariables false

theorem RdQ.rdl : ∀ {d : Nat} {w : World} {v : Value} {ts : List (Tm d)}, RdQ d w v ts → RdL d w v ts := by
  intro d
  induction d with
  | zero => intro w v ts h; exact h
  | succ d ih =>
    rintro w v ts ⟨a, c, e, h⟩
    refine ⟨a, c, e, fun i t ht => ?_⟩
    obtain ⟨b, o, lv, h1, _, h3, h4⟩ := h i t ht
    exact ⟨b, o, lv, h1, h3, ih h4⟩

theorem addr_at (b o j : Nat) : (⟨b, o, none⟩ : Addr).add j = ⟨b, o + j, none⟩ := by unfold Addr.add; split <;> simp_all
theorem fnIx_bound (fs : List DFn) (s : ByteArray) : -1 ≤ fnIx fs s ∧ fnIx fs s < (fs.length : Int) := by
  unfold fnIx
  rcases fidx_cases (fun f : DFn => decide (f.Name = s)) fs with ⟨h, _⟩ | ⟨k, x, h, hx, _⟩
  · rw [h]; omega
  · rw [h]
    have := (List.getElem?_eq_some_iff.1 hx).1
    omega
theorem cntL_app_le {d : Nat} (l m : List (Tm (d + 1))) : cntL (d + 1) l ≤ cntL (d + 1) (l ++ m) := by
  induction l with
  | nil => rw [cntL_nil]; omega
  | cons t l ih => rw [List.cons_append, cntL_cons, cntL_cons]; omega
/-- A function of right code that takes these. -/
def NewP {d e : Nat} (c : DCode d) (nm : ByteArray) (args : List (Tm (e + 1))) (k : Nat) (g : DFn) : Prop :=
  pCodeOk d c ∧ fnIx c.Fns nm = (k : Int) ∧ c.Fns[k]? = some g ∧ g.Args = args.length ∧ ∀ (i : Nat) (t : Tm (e + 1)), args[i]? = some t → RightT e t
theorem NewP.same {d e : Nat} {c : DCode d} {nm : ByteArray} {args : List (Tm (e + 1))} {k k' : Nat} {g g' : DFn} (h : NewP c nm args k g) (h' : NewP c nm args k' g') : k = k' ∧ g = g' := by
  have e1 : (k : Int) = k' := h.2.1.symm.trans h'.2.1
  have : k = k' := by omega
  subst this
  have e2 := h.2.2.1.symm.trans h'.2.2.1
  exact ⟨rfl, by simpa using e2⟩

def EntP (e p : Nat) (a0 : Option Addr) (l0 c0 : Nat) (a1 : Option Addr) (l1 c1 : Nat) (fr : DFrame e) (w w' : World) : Prop :=
  ∃ g2 cap, w'.heap[p]? = some (.cells #[.slice a0 l0 c0, .slice a1 l1 c1, .slice (some ⟨g2, 0, none⟩) 1 cap, .slice none 0 0, .slice none 0 0] 92 (0, 0)) ∧ RowOf 3 (FrameQ e) w' (.slice (some ⟨g2, 0, none⟩) 1 cap) [fr] ∧ Turned p w w'

set_option maxRecDepth 100000 in
set_option maxHeartbeats 4000000 in
theorem enter_any {d e : Nat} (p : Nat) (a0 : Option Addr) (l0 c0 : Nat) (a1 : Option Addr) (l1 c1 : Nat) (c : DCode d) (k : Nat) (g : DFn) (S : Nat) (sa : Option Addr) (n sc : Nat) (args : List (Tm (e + 1))) (w0 w : World)
    (hb0 : Below w0.heap.size w0 w) (hp0 : w0.heap.size ≤ p) (hp : w.heap[p]? = some (.cells #[.slice a0 l0 c0, .slice a1 l1 c1, .slice none 0 0, .slice none 0 0, .slice none 0 0] 92 (0, 0))) (hF : RowOf 4 FnR w (.slice a0 l0 c0) c.Fns) (hg : c.Fns[k]? = some g) (hl0 : l0 ≤ 1048576) (hS : g.Slots = S) (hSb : S ≤ 400)
    (hr : RdQ (e + 1) w0 (.slice sa n sc) args) (hn : args.length = n) (hnS : n ≤ S) :
    Calls Tryz.prog 74 #[.pointer (some ⟨p, 0, none⟩), .int .i64 k, .slice sa n sc] w fun e' w' => e' = .returned (.tuple #[]) ∧ Hid (EntP e p a0 l0 c0 a1 l1 c1 ⟨k, 0, slotsD args S⟩ w w') := by
  obtain ⟨i0, hi, hz0, hz1, hz2⟩ := info_parts Tryz.infoTerm
  obtain ⟨j0, hj, hj0, hj1, hj2⟩ := info_parts Tryz.infoFrame
  obtain ⟨aa, cc, ee⟩ := hF.slice
  simp only [Value.slice.injEq] at ee
  obtain ⟨-, el, -⟩ := ee
  obtain ⟨b, o, a3, c3, rfl, f0, f1, f2, f3, _⟩ := Fn_at hF k g hg
  rw [hS] at f2
  have hbl : b < w.heap.size := by have := World.block_lt_of_cell? w _ f0; simpa using this
  have kl : k < l0 := by have := (List.getElem?_eq_some_iff.1 hg).1; omega
  have kl' : (k : Int) < (l0 : Int) := by omega
  have q0 : w.cell? ⟨p, 0, none⟩ = some (.slice (some ⟨b, o, none⟩) l0 c0) := by rw [cell_of_row w _ 0 _ _ _ hp]; rfl
  have hpl : p < w.heap.size := lt_row hp
  have HP : Hid (w.heap[p]? = _) := hp
  have HR : Hid (RdQ (e + 1) w0 (.slice sa n sc) args ∧ args.length = n) := ⟨hr, hn⟩
  have HB0 : Hid (Below w0.heap.size w0 w ∧ w0.heap.size ≤ p) := ⟨hb0, hp0⟩
  clear hp hF hg hr hn f0 f1 f3 el hS hb0 hp0
  go_enter Tryz.func74, Tryz.ntmps74
  go_wp2_with (at_make; refine wpList_make_full _ rfl _ _ 39 rfl w.heap.size 66 i0 _ 4 Tryz.underlying39 hi hz0 hz1 _ _ _ _ S rfl rfl rfl rfl (by rw [hz2]; omega) (by unfold maxLen; omega) (Nat.le_refl _) ?_)
  intro w1 hown hgrow
  have b1 : Below w.heap.size w w1 := ⟨hgrow.os, hgrow.tape, hgrow.output, hgrow.size, fun k hk => hgrow.block k hk (by simp)⟩
  have hM : w1.heap[w.heap.size]? = some (.cells (madeCells (Value.agg #[.int .i64 0, .int .i64 0, .string ⟨#[]⟩, .slice none 0 0]).cells (S * 4)) 66 (0, 0)) := by
    rcases hown.2 with ⟨h', _⟩ | ⟨g', cap', cur, h', _, hg, _, _, hs, ht⟩
    · simp at h'
    · simp only [Value.slice.injEq, Option.some.injEq, Addr.mk.injEq, and_true, true_and] at h'
      obtain ⟨rfl, rfl⟩ := h'
      have e1 : cur = madeCells (Value.agg #[.int .i64 0, .int .i64 0, .string ⟨#[]⟩, .slice none 0 0]).cells (S * 4) := by
        rw [List.take_of_length_le (by rw [Array.length_toList]; omega)] at ht
        exact Array.toList_inj.1 ht
      rw [← e1]
      exact hg
  obtain ⟨w2, news, hrun, n2, b2, nl, hne⟩ : ∃ (w2 : World) (news : List Value), (∀ ty, (Builtin.copy_ #[39, 39] ty #[.slice (some ⟨w.heap.size, 0, none⟩) S S, .slice sa n sc]).run Tryz.prog w1 = .ok (goInt n) w2) ∧ w2.heap[w.heap.size]? = some (.cells (news ++ (madeCells (Value.agg #[.int .i64 0, .int .i64 0, .string ⟨#[]⟩, .slice none 0 0]).cells (S * 4)).toList.drop news.length).toArray 66 (0, 0)) ∧ Below w.heap.size w w2 ∧ news.length = args.length * 4 ∧
      ∀ (i : Nat) (t : Tm (e + 1)), args[i]? = some t → ∃ lv, news[i * 4]? = some (.int .i64 t.K) ∧ news[i * 4 + 1]? = some (.int .i64 t.N) ∧ news[i * 4 + 2]? = some (.string t.S) ∧ news[i * 4 + 3]? = some lv ∧ RdQ e w0 lv t.L := by
    have hs4 : (Tryz.prog.info? 66).map (·.size) = some 4 := by rw [hi]; simp [hz1]
    by_cases h0 : n = 0
    · have ha : args = [] := List.eq_nil_of_length_eq_zero (by rw [HR.out.2]; exact h0)
      refine ⟨w1, [], fun ty => ?_, by simpa using hM, b1, by rw [ha]; rfl, fun i t ht => by rw [ha] at ht; simp at ht⟩
      rw [h0]
      exact run_copy_zero w1 _ _ ty 66 _ _ _ _ _ _ 4 Tryz.underlying39 hs4 (by simp)
    · obtain ⟨sb, so, sc', e1, _, hel⟩ := HR.out.1.open (fun h => h0 (by rw [← HR.out.2, h]; rfl))
      cases e1
      obtain ⟨news, r1, r2, r3, r4⟩ := rdq_cells w0 args sb so hel
      have hmz := (made4 S).1
      refine ⟨_, news, fun ty => run_copy_wide w1 _ _ ty 66 w.heap.size 0 S S ⟨sb, so, none⟩ args.length sc args.length 4 _ _ news Tryz.underlying39 hs4 hM (Nat.min_eq_left hnS) r1 (fun j u hu => by rw [addr_at]; exact cell_later b1 (cell_later HB0.out.1 (r2 j u hu))) (by rw [hmz]; omega) r3, ?_, below_setRow b1 (Nat.le_refl _) _, r1, r4⟩
      rw [setRow_heap w1 _ _ _ _ _ hM]
      simp
  have HN2 : Hid (∀ V : World, Below w0.heap.size w0 V → V.heap[w.heap.size]? = w2.heap[w.heap.size]? → RdQ (e + 1) V (.slice (some ⟨w.heap.size, 0, none⟩) S S) (slotsD args S)) := fun V hV hs => slots_rdq (by rw [HR.out.2]; exact hnS) hV nl hne (hs.trans n2)
  have HB2 : Hid (Below w.heap.size w w2) := b2
  have p2 := (b2.block _ hpl).trans HP.out
  have x2 : w2.cell? ⟨p, 2, none⟩ = some (.slice none 0 0) := by rw [cell_of_row w2 _ 2 _ _ _ p2]; rfl
  have z2 : w2.frozen? ⟨p, 2, none⟩ = false := frozen_of_row w2 _ _ _ _ p2
  have hpl2 : p < w2.heap.size := lt_row p2
  have HP2 : Hid (w2.heap[p]? = _) := p2
  have HLT : Hid (w.heap.size < w2.heap.size) := lt_row n2
  clear hown hgrow hM b1 b2 nl hne n2 p2 q0 f2
  have HAP : Hid (∀ (v' : Value) (w3 : World), w3.ownsRow w2.heap.size 61 3 v' (0 + 1) ([] ++ [.int .i64 (k : Int), .int .i64 0, .slice (some ⟨w.heap.size, 0, none⟩) S S]) → (w2.alloc (.cells #[.int .i64 (k : Int), .int .i64 0, .slice (some ⟨w.heap.size, 0, none⟩) S S] 61)).grownBy w3 none →
      ∃ g2 cap, v' = .slice (some ⟨g2, 0, none⟩) 1 cap ∧ w3.cell? ⟨p, 2, none⟩ = some (.slice none 0 0) ∧ w3.frozen? ⟨p, 2, none⟩ = false ∧ Hid (EntP e p (some ⟨b, o, none⟩) l0 c0 a1 l1 c1 ⟨k, 0, slotsD args S⟩ w (w3.setCell ⟨p, 2, none⟩ (.slice (some ⟨g2, 0, none⟩) 1 cap)))) := fun v' w3 hown3 hgrow3 => by
    have bX : Below w2.heap.size w2 (w2.alloc (.cells #[.int .i64 (k : Int), .int .i64 0, .slice (some ⟨w.heap.size, 0, none⟩) S S] 61)) := (Below.refl _ _).alloc (Nat.le_refl _) _
    have b23 : Below w2.heap.size w2 w3 := bX.trans ⟨hgrow3.os, hgrow3.tape, hgrow3.output, hgrow3.size, fun k hk => hgrow3.block k (by simp; omega) (by intro h; cases h)⟩
    rcases hown3.2 with ⟨_, h0⟩ | ⟨g2, cap, cur, rfl, hge, hcur, _, _, _, htk⟩
    · omega
    have p3 := (b23.block _ hpl2).trans HP2.out
    have hgp : g2 ≠ p := by omega
    have hg3 : (w3.setCell ⟨p, 2, none⟩ (.slice (some ⟨g2, 0, none⟩) 1 cap)).heap[g2]? = some (.cells cur 61 (0, 0)) := by
      rw [heap_setCell_other _ _ _ _ hgp]; exact hcur
    have hwp : w.heap.size ≠ p := by omega
    refine ⟨g2, cap, rfl, by rw [cell_of_row w3 _ 2 _ _ _ p3]; rfl, frozen_of_row w3 _ _ _ _ p3, g2, cap, by rw [heap_setCell_same w3 p 2 _ _ _ p3]; rfl, ⟨_, cap, rfl, fun i x hx => ?_⟩, ?_⟩
    · cases i with
      | succ i => simp at hx
      | zero =>
        simp only [List.getElem?_cons_zero, Option.some.injEq] at hx
        subst hx
        refine ⟨g2, 0, [.int .i64 (k : Int), .int .i64 0, .slice (some ⟨w.heap.size, 0, none⟩) S S], rfl, rfl, fun j u hu => ?_, _, rfl, ?_⟩
        · rw [cell_of_row _ _ _ _ _ _ hg3, Nat.zero_mul, Nat.zero_add, ← Array.getElem?_toList]
          exact take_at htk (by simpa using hu)
        · refine HN2.out _ (HB0.out.1.trans ((((HB2.out.trans (b23.mono HB2.out.size)).mono HB0.out.1.size).trans ⟨rfl, rfl, rfl, by simp, fun y hy => heap_setCell_other _ _ _ _ (by show y ≠ p; have := HB0.out.2; omega)⟩))) ?_
          rw [heap_setCell_other _ _ _ _ hwp]
          exact b23.block _ HLT.out
    · have t1 : Turned p w w3 := Turned.of_below (HB2.out.trans (b23.mono HB2.out.size))
      exact t1.trans (Turned.of_set w3 p 2 _)
  go_wp2_with (first
    | (at_builtin; refine Lib.wpList_copy_run _ rfl (.tmp 17) (.tmp 18) 39 39 rfl _ _ rfl rfl (hrun _) ?_)
    | (at_builtin; refine wpList_append_own_at _ rfl (.tmp 25) (.tmp 29) 38 rfl w2.heap.size 61 j0 (.agg #[.int .i64 0, .int .i64 0, .slice none 0 0]) 3 40 Tryz.underlying38 hj hj0 hj1 hj2 rfl (by decide) (.slice none 0 0) 0 [] rfl (World.ownsRow_nil _ _ _ _) ⟨w2.heap.size, 0, none⟩ 1 1 [.int .i64 (k : Int), .int .i64 0, .slice (some ⟨w.heap.size, 0, none⟩) S S] rfl rfl (three_new w2 _ _ _ _) (by intro u hu; simp at hu; rcases hu with rfl | rfl | rfl <;> rfl) (by unfold maxLen; omega) (by omega) (by simp) ?_; intro v' w3 hown3 hgrow3 _ hat; obtain ⟨g2, cap, rfl, x3, z3, HEND⟩ := HAP.out v' w3 hown3 hgrow3))
  go_end0
  exact ⟨rfl, HEND⟩

/-- A machine that stands at the beginning, or none. -/
def MfRes {d : Nat} (c : DCode d) (nm : ByteArray) (args : List (Tm (d + 1))) (w : World) (e : Ending) (w' : World) : Prop :=
  (e = .returned (.tuple #[.pointer none, .bool false]) ∧ (¬ ∃ k g, NewP c nm args k g) ∧ Below w.heap.size w w') ∨
    ∃ (k : Nat) (g : DFn) (p g2 cap : Nat) (u0 u1 u4 : Value), e = .returned (.tuple #[.pointer (some ⟨p, 0, none⟩), .bool true]) ∧ NewP c nm args k g ∧ w'.heap[p]? = some (.cells #[u0, u1, .slice (some ⟨g2, 0, none⟩) 1 cap, .slice none 0 0, u4] 92 (0, 0)) ∧
      RowOf 3 (FrameQ d) w' (.slice (some ⟨g2, 0, none⟩) 1 cap) [⟨k, 0, slotsD args g.Slots.toNat⟩] ∧ Below w.heap.size w w'
theorem mf_no {d : Nat} {c : DCode d} {nm : ByteArray} {args : List (Tm (d + 1))} {w w' : World} (h : ¬ ∃ k g, NewP c nm args k g) (hb : Below w.heap.size w w') : MfRes c nm args w (.returned (.tuple #[.pointer none, .bool false])) w' := .inl ⟨rfl, h, hb⟩

set_option maxRecDepth 100000 in
set_option maxHeartbeats 4000000 in
theorem machineFor_any (d : Nat) (vs : List Value) (c : DCode d) (nm : ByteArray) (sa : Option Addr) (n sc : Nat) (args : List (Tm (d + 1))) (w : World) (hc : CodeR d w vs c) (hwc : WfCode d c) (hz : szCodeD d c ≤ 1048576) (ht : ShOk w)
    (hr : RdQ (d + 1) w (.slice sa n sc) args) (hn : args.length = n) (hnb : n ≤ 1048576) (hwa : WfL (d + 1) args) :
    Calls Tryz.prog 44 #[.agg vs.toArray, .string nm, .slice sa n sc] w fun e w' => MfRes c nm args w e w' := by
  obtain ⟨a0, l0, c0, a1, l1, c1, rfl⟩ := CodeR.shape _ _ _ _ hc
  have hcc := hc
  obtain ⟨w0, w1, e0, hF, hP⟩ := hcc
  simp only [List.cons.injEq, and_true] at e0
  obtain ⟨rfl, rfl⟩ := e0
  obtain ⟨aa, cc, ee⟩ := hF.slice
  simp only [Value.slice.injEq] at ee
  obtain ⟨-, el, -⟩ := ee
  have HLN : Hid (c.Fns.length = l0 ∧ l0 ≤ 1048576) := ⟨el.symm, by have := szRow_len szFnD c.Fns; unfold szCodeD at hz; omega⟩
  have hl0 : l0 ≤ 1048576 := HLN.out.2
  obtain ⟨W, hW⟩ : ∃ W, W = w.alloc (.cells #[.slice a0 l0 c0, .slice a1 l1 c1] 36) := ⟨_, rfl⟩
  have hA : Below w.heap.size w W := by rw [hW]; exact (Below.refl _ _).alloc (Nat.le_refl _) _
  have nA : W.heap[w.heap.size]? = some (.cells #[.slice a0 l0 c0, .slice a1 l1 c1] 36 (0, 0)) := by rw [hW]; exact heap_alloc_new w _
  have HB : Hid (Below w.heap.size w W) := hA
  have HBX : Hid (∀ V : World, Below W.heap.size W V → V.cell? ⟨w.heap.size, 0, none⟩ = some (.slice a0 l0 c0) ∧ V.cell? ⟨w.heap.size, 1, none⟩ = some (.slice a1 l1 c1) ∧ w.heap.size < V.heap.size) := fun V hV => by
    have mA := (hV.block _ (lt_row nA)).trans nA
    exact ⟨by rw [cell_of_row V _ 0 _ _ _ mA]; rfl, by rw [cell_of_row V _ 1 _ _ _ mA]; rfl, lt_row mA⟩
  have HRW : Hid (∀ V : World, Below w.heap.size w V → RowOf 4 FnR V (.slice a0 l0 c0) c.Fns) := fun V hV => hF.later FnR.lasts hV
  have HFA : Hid (∀ V : World, Below w.heap.size w V → Calls Tryz.prog 63 #[.agg #[.slice a0 l0 c0, .slice a1 l1 c1], .string nm] V fun e w' => e = .returned (.int .i64 (fnIx c.Fns nm)) ∧ Below V.heap.size V w') := fun V hV =>
    fnAt_any (.slice a0 l0 c0) (.slice a1 l1 c1) c.Fns nm V (hF.later FnR.lasts hV) (by have := HLN.out; omega)
  have HAR : Hid (∀ V : World, Below w.heap.size w V → Calls Tryz.prog 36 #[.slice sa n sc] V fun e w' => BRes (∀ (i : Nat) (t : Tm (d + 1)), args[i]? = some t → RightT d t) V e w') := fun V hV =>
    allRight_any d sa n sc args V (hr.later hV).rdl hwa hn hnb
  have HAQ : Hid (RdQ (d + 1) w (.slice sa n sc) args ∧ args.length = n) := ⟨hr, hn⟩
  have hC := implCodeOk_any d _ c W (CodeR.lasts d _ _ _ _ hc hA) hwc hz (ht.later hA)
  rw [hW] at hC
  have HW : Hid (W = _) := hW
  clear hc hwc hz ht hF hP el nA hA hW hr hn hwa
  go_enter Tryz.func44, Tryz.ntmps44
  go_wp2_with fail
  refine hC.mono ?_
  clear hC
  rintro e V ⟨b', rfl, hb', hB'⟩
  rw [← HW.out] at hB'
  have HBV : Hid (Below W.heap.size W V) := hB'
  have HBw : Hid (Below w.heap.size w V) := HB.out.trans (hB'.mono HB.out.size)
  clear hB' HW
  cases b' with
  | false =>
    have HF : Hid (¬ ∃ k g, NewP c nm args k g) := fun h => by obtain ⟨k, g, h⟩ := h; have := hb'.2 h.1; cases this
    clear hb'
    go_wp2_with fail
    go_ret2
    exact mf_no HF.out HBw.out
  | true =>
  have HOK : Hid (pCodeOk d c) := hb'.1 rfl
  clear hb'
  obtain ⟨y0, y1, hwl⟩ := HBX.out V HBV.out
  have hC := HFA.out V HBw.out
  go_wp2_with fail
  refine hC.mono ?_
  clear hC
  rintro e V2 ⟨rfl, hB2⟩
  have HV2 : Hid (Below W.heap.size W V2) := HBV.out.trans (hB2.mono HBV.out.size)
  have HV2w : Hid (Below w.heap.size w V2) := HBw.out.trans (hB2.mono HBw.out.size)
  clear hB2 y0 y1 hwl
  obtain ⟨y0, y1, hwl⟩ := HBX.out V2 HV2.out
  obtain ⟨ix, hix⟩ : ∃ z, fnIx c.Fns nm = z := ⟨_, rfl⟩
  have HIX : Hid (fnIx c.Fns nm = ix) := hix
  have hixb : -1 ≤ ix ∧ ix < (l0 : Int) := by rw [← hix, ← HLN.out.1]; exact fnIx_bound c.Fns nm
  rw [hix]
  clear hix
  by_cases hneg : ix < 0
  · have HF : Hid (¬ ∃ k g, NewP c nm args k g) := fun h => by obtain ⟨k, g, h⟩ := h; have := h.2.1; rw [HIX.out] at this; omega
    go_wp2_with fail
    go_ret2
    exact mf_no HF.out HV2w.out
  obtain ⟨k, rfl⟩ : ∃ k : Nat, ix = k := ⟨ix.toNat, by omega⟩
  obtain ⟨g, hg⟩ : ∃ g, c.Fns[k]? = some g := ⟨_, List.getElem?_eq_getElem (by have := HLN.out.1; omega)⟩
  obtain ⟨b, o, a3, c3, rfl, f0, f1, f2, f3, _⟩ := Fn_at (HRW.out V2 HV2w.out) k g hg
  have HG : Hid (c.Fns[k]? = some g) := hg
  have hbl : b < V2.heap.size := by have := World.block_lt_of_cell? V2 _ f0; simpa using this
  have kl : k < l0 := by omega
  have kl' : (k : Int) < (l0 : Int) := by omega
  have HONE : Hid (∀ k' g', NewP c nm args k' g' → k' = k ∧ g' = g) := fun k' g' h => by
    have e1 : (k' : Int) = k := h.2.1.symm.trans HIX.out
    have : k' = k := by omega
    subst this
    have e2 := h.2.2.1
    rw [HG.out] at e2
    exact ⟨rfl, by cases e2; rfl⟩
  clear hg
  by_cases hag : g.Args = (n : Int)
  case neg =>
    have hag' : (g.Args != (n : Int)) = true := by simp [hag]
    have HF : Hid (¬ ∃ k g, NewP c nm args k g) := fun h => by
      obtain ⟨k', g', h⟩ := h
      obtain ⟨rfl, rfl⟩ := HONE.out k' g' h
      have := h.2.2.2.1
      rw [HAQ.out.2] at this
      exact hag this
    clear hag
    go_wp2_with fail
    go_ret2
    exact mf_no HF.out HV2w.out
  have hag' : (g.Args != (n : Int)) = false := by simp [hag]
  have HAG : Hid (g.Args = (n : Int)) := hag
  clear hag
  have hC := HAR.out V2 HV2w.out
  obtain ⟨QQ, hQQ⟩ : ∃ Q : Prop, (∀ (i : Nat) (t : Tm (d + 1)), args[i]? = some t → RightT d t) = Q := ⟨_, rfl⟩
  have HQQ : Hid ((∀ (i : Nat) (t : Tm (d + 1)), args[i]? = some t → RightT d t) = QQ) := hQQ
  rw [hQQ] at hC
  clear hQQ
  go_wp2_with fail
  refine hC.mono ?_
  clear hC
  rintro e V3 ⟨b3, rfl, hb3, hB3⟩
  have HV3 : Hid (Below W.heap.size W V3) := HV2.out.trans (hB3.mono HV2.out.size)
  have HV3w : Hid (Below w.heap.size w V3) := HV2w.out.trans (hB3.mono HV2w.out.size)
  clear hB3 y0 y1 hwl f0 f1 f2 f3 hbl
  cases b3 with
  | false =>
    have HF : Hid (¬ ∃ k g, NewP c nm args k g) := fun h => by
      obtain ⟨k', g', h⟩ := h
      have := hb3.2 (by rw [← HQQ.out]; exact h.2.2.2.2)
      cases this
    clear hb3
    go_wp2_with fail
    go_ret2
    exact mf_no HF.out HV3w.out
  | true =>
  have HNP : Hid (NewP c nm args k g) := ⟨HOK.out, HIX.out, HG.out, by rw [HAQ.out.2]; exact HAG.out, by rw [HQQ.out]; exact hb3.1 rfl⟩
  clear hb3
  obtain ⟨y0, y1, hwl⟩ := HBX.out V3 HV3.out
  obtain ⟨_, _, hAB, hSB, _⟩ := HOK.out.2.2 k g HG.out
  obtain ⟨S, hS⟩ : ∃ S : Nat, g.Slots = S := ⟨g.Slots.toNat, by omega⟩
  obtain ⟨X, hX⟩ : ∃ X, X = V3.alloc (.cells #[.slice (some ⟨b, o, none⟩) l0 c0, .slice a1 l1 c1, .slice none 0 0, .slice none 0 0, .slice none 0 0] 92) := ⟨_, rfl⟩
  have bX : Below V3.heap.size V3 X := by rw [hX]; exact (Below.refl _ _).alloc (Nat.le_refl _) _
  have HXw : Hid (Below w.heap.size w X) := HV3w.out.trans (bX.mono HV3w.out.size)
  have hC := enter_any V3.heap.size (some ⟨b, o, none⟩) l0 c0 a1 l1 c1 c k g S sa n sc args w X HXw.out HV3w.out.size (by rw [hX]; exact heap_alloc_new V3 _) (HRW.out X HXw.out) HG.out hl0 hS (by omega) HAQ.out.1 HAQ.out.2 (by have := HAG.out; omega)
  rw [hX] at hC
  have HX : Hid (X = _) := hX
  have HSE : Hid (g.Slots.toNat = S) := by show _ = _; omega
  have HVX : Hid (w.heap.size ≤ V3.heap.size ∧ w.heap.size ≤ X.heap.size) := ⟨HV3w.out.size, HXw.out.size⟩
  clear hX bX hAB hSB
  go_wp2_with fail
  refine hC.mono ?_
  clear hC
  rintro e V4 ⟨rfl, HE⟩
  rw [← HX.out] at HE
  obtain ⟨g2, cap, r1, r2, r3⟩ := HE.out
  have HFIN : Hid (MfRes c nm args w (.returned (.tuple #[.pointer (some ⟨V3.heap.size, 0, none⟩), .bool true])) V4) := .inr ⟨k, g, V3.heap.size, g2, cap, _, _, _, rfl, HNP.out, r1, by rw [HSE.out]; exact r2, HXw.out.trans (r3.below HVX.out.1 HVX.out.2)⟩
  clear HE r1 r2 r3
  go_wp2_with fail
  go_ret2
  exact HFIN.out

theorem cnt_slots {d : Nat} (args : List (Tm (d + 1))) (S : Nat) : cntL (d + 1) (slotsD args S) ≤ cntL (d + 1) args + S := by
  unfold slotsD
  induction args with
  | nil =>
    rw [List.nil_append]
    have : ∀ m, cntL (d + 1) (List.replicate m (zeroTm d)) = m := fun m => by
      induction m with
      | zero => exact cntL_nil _
      | succ m ih => rw [List.replicate_succ, cntL_cons, ih]; show 1 + cntL d [] + m = m + 1; rw [cntL_nil]; omega
    rw [this]
    simp
  | cons t l ih =>
    rw [List.cons_append, cntL_cons, cntL_cons]
    have h2 : S - (t :: l).length ≤ S - l.length := by simp; omega
    have h3 : ∀ m m', m ≤ m' → cntL (d + 1) (l ++ List.replicate m (zeroTm d)) ≤ cntL (d + 1) (l ++ List.replicate m' (zeroTm d)) := fun m m' h => by
      obtain ⟨q, rfl⟩ : ∃ q, m' = m + q := ⟨m' - m, by omega⟩
      rw [← List.replicate_append_replicate, ← List.append_assoc]
      exact cntL_app_le _ _
    have := h3 _ _ h2
    omega

end Go.Proofs.YtkkdnkdkelligaaGreatDoor

/- A new machine: the program's answer. -/
namespace Go.Proofs.YtkkdnkdkelligaaGreatDoor
open Go.RowKit
set_option linter.unusedVariables false

/-- What VmNew answers. -/
def VmNewT {d : Nat} (c : DCode d) (nm : ByteArray) (args : List (Tm (d + 1))) (v : DVm d) (ok : Bool) : Prop :=
  (ok = true ∧ ∃ k g, NewP c nm args k g ∧ v = ⟨[⟨k, 0, slotsD args g.Slots.toNat⟩], []⟩) ∨ (ok = false ∧ (¬ ∃ k g, NewP c nm args k g) ∧ v = ⟨[], []⟩)
theorem VmNewT.same {d : Nat} {c : DCode d} {nm : ByteArray} {args : List (Tm (d + 1))} {v v' : DVm d} {ok ok' : Bool} (h : VmNewT c nm args v ok) (h' : VmNewT c nm args v' ok') : v = v' ∧ ok = ok' := by
  rcases h with ⟨h1, k, g, h2, h3⟩ | ⟨h1, h2, h3⟩ <;> rcases h' with ⟨j1, k', g', j2, j3⟩ | ⟨j1, j2, j3⟩
  · obtain ⟨rfl, rfl⟩ := h2.same j2
    exact ⟨h3.trans j3.symm, h1.trans j1.symm⟩
  · exact absurd ⟨k, g, h2⟩ j2
  · exact absurd ⟨k', g', j2⟩ h2
  · exact ⟨h3.trans j3.symm, h1.trans j1.symm⟩
def VnAns {d : Nat} (c : DCode d) (nm : ByteArray) (args : List (Tm (d + 1))) (w : World) (e : Ending) (w' : World) : Prop :=
  ∃ (a0 : Option Addr) (l0 c0 : Nat) (a1 : Option Addr) (l1 c1 : Nat) (ok : Bool) (v : DVm d) (fp : List Nat), e = .returned (.tuple #[.agg #[.slice a0 l0 c0, .slice a1 l1 c1], .bool ok]) ∧ Hid (VmNewT c nm args v ok ∧ VmO d w' [.slice a0 l0 c0, .slice a1 l1 c1] v fp ∧ Fresh w.heap.size w' fp) ∧ Below w.heap.size w w'
theorem zero_own (d : Nat) (w : World) : VmO d w [.slice none 0 0, .slice none 0 0] ⟨[], []⟩ [] := ⟨_, _, [], [], rfl, rfl, .inl ⟨rfl, rfl, none, 0, rfl⟩, .inl ⟨rfl, rfl, none, 0, rfl⟩⟩

set_option maxRecDepth 100000 in
set_option maxHeartbeats 4000000 in
theorem implVmNew_any (d : Nat) (vs : List Value) (c : DCode d) (nm : ByteArray) (sa : Option Addr) (n sc : Nat) (args : List (Tm (d + 1))) (w : World) (hc : CodeR d w vs c) (hwc : WfCode d c) (hz : szCodeD d c ≤ 1048576) (ht : ShOk w)
    (hr : RdQ (d + 1) w (.slice sa n sc) args) (hn : args.length = n) (hnb : n ≤ 1048576) (hwa : WfL (d + 1) args) (hcnt : cntL (d + 1) args ≤ 1048576) :
    Calls Tryz.prog 16 #[.agg vs.toArray, .string nm, .slice sa n sc] w fun e w' => VnAns c nm args w e w' := by
  obtain ⟨a0, l0, c0, a1, l1, c1, rfl⟩ := CodeR.shape _ _ _ _ hc
  obtain ⟨W, hW⟩ : ∃ W, W = (w.alloc (.cells #[.slice a0 l0 c0, .slice a1 l1 c1] 36)).alloc (.cells #[.slice none 0 0, .slice none 0 0] 41) := ⟨_, rfl⟩
  have hA : Below w.heap.size w W := by rw [hW]; exact ((Below.refl _ _).alloc (Nat.le_refl _) _).alloc (by simp) _
  have hWs : W.heap.size = w.heap.size + 1 + 1 := by rw [hW]; simp
  have nB : W.heap[w.heap.size + 1]? = some (.cells #[.slice none 0 0, .slice none 0 0] 41 (0, 0)) := by
    rw [hW, show w.heap.size + 1 = (w.alloc (.cells #[.slice a0 l0 c0, .slice a1 l1 c1] 36)).heap.size from by simp]; exact heap_alloc_new _ _
  have hC := machineFor_any d _ c nm sa n sc args W (CodeR.lasts d _ _ _ _ hc hA) hwc hz (ht.later hA) (hr.later hA) hn hnb hwa
  rw [hW] at hC
  have HW : Hid (W = _ ∧ W.heap.size = w.heap.size + 1 + 1 ∧ Below w.heap.size w W ∧ W.heap[w.heap.size + 1]? = some (.cells #[.slice none 0 0, .slice none 0 0] 41 (0, 0))) := ⟨hW, hWs, hA, nB⟩
  have HCN : Hid (cntL (d + 1) args ≤ 1048576) := hcnt
  clear hc hwc hz ht hr hn hnb hwa hcnt hW hWs hA nB
  go_enter Tryz.func16, Tryz.ntmps16
  go_wp2_with fail
  refine hC.mono ?_
  clear hC
  rintro e V h
  rw [← HW.out.1] at h
  rcases h with ⟨rfl, HNO, hB⟩ | ⟨k, g, p, g2, cap, u0, u1, u4, rfl, hNP, hp, hrow, hB⟩
  · have nV := (hB.block _ (lt_row HW.out.2.2.2)).trans HW.out.2.2.2
    have e0 : V.cell? ⟨w.heap.size + 1, 0, none⟩ = some (.slice none 0 0) := by rw [cell_of_row V _ 0 _ _ _ nV]; rfl
    have e1 : V.cell? ⟨w.heap.size + 1, 1, none⟩ = some (.slice none 0 0) := by rw [cell_of_row V _ 1 _ _ _ nV]; rfl
    have z0 : V.frozen? ⟨w.heap.size + 1, 0, none⟩ = false := frozen_of_row V _ _ _ _ nV
    have z1 : V.frozen? ⟨w.heap.size + 1, 1, none⟩ = false := frozen_of_row V _ _ _ _ nV
    have HBV : Hid (Below w.heap.size w V) := HW.out.2.2.1.trans (hB.mono HW.out.2.2.1.size)
    have HNE : Hid (¬ ∃ k g, NewP c nm args k g) := HNO
    clear HNO nV hB
    go_wp2_with fail
    refine bodyPost_ret (v := .tuple #[.agg #[.slice none 0 0, .slice none 0 0], .bool false]) (by first | (simp [results, Tryz.results16, go_sem, e0, e1]; done) | (simp [results, Tryz.results16, go_sem, e0, e1]; rfl)) rfl ⟨none, 0, 0, none, 0, 0, false, ⟨[], []⟩, [], rfl, ⟨.inr ⟨rfl, HNE.out, rfl⟩, zero_own d _, List.nodup_nil, fun g hg => by cases hg⟩, ?_⟩
    exact HBV.out.trans ⟨rfl, rfl, rfl, by simp, fun i hi => by rw [heap_setCell_other _ _ _ _ (by show i ≠ w.heap.size + 1; omega), heap_setCell_other _ _ _ _ (by show i ≠ w.heap.size + 1; omega)]⟩
  · have HBV : Hid (Below w.heap.size w V) := HW.out.2.2.1.trans (hB.mono HW.out.2.2.1.size)
    have nV := (hB.block _ (lt_row HW.out.2.2.2)).trans HW.out.2.2.2
    have HNV : Hid (V.heap[w.heap.size + 1]? = _) := nV
    have m2 : V.cell? ⟨p, 2, none⟩ = some (.slice (some ⟨g2, 0, none⟩) 1 cap) := by rw [cell_of_row V _ 2 _ _ _ hp]; rfl
    have m3 : V.cell? ⟨p, 3, none⟩ = some (.slice none 0 0) := by rw [cell_of_row V _ 3 _ _ _ hp]; rfl
    have HNP : Hid (NewP c nm args k g) := hNP
    have hQ : VmQ d V [.slice (some ⟨g2, 0, none⟩) 1 cap, .slice none 0 0] ⟨[⟨k, 0, slotsD args g.Slots.toNat⟩], []⟩ := ⟨_, _, rfl, hrow, none, 0, rfl, fun i t h => by simp at h⟩
    have hsb : g.Slots.toNat ≤ 400 := by
      have := (hNP.1.2.2 k g hNP.2.2.1).2.2.2.1
      omega
    have hC := ownVm_any d _ ⟨[⟨k, 0, slotsD args g.Slots.toNat⟩], []⟩ V hQ (by simp) (by
      have h1 := cnt_slots args g.Slots.toNat
      have h2 := HCN.out
      have h3 : cntL (d + 2) (lsT (⟨[⟨k, 0, slotsD args g.Slots.toNat⟩], []⟩ : DVm d)) = 1 + cntL (d + 1) [] + (1 + cntL (d + 1) (slotsD args g.Slots.toNat) + cntL (d + 2) []) := rfl
      rw [h3, cntL_nil, cntL_nil]
      omega)
    have hsz : w.heap.size + 1 < V.heap.size := lt_row nV
    have HSZ : Hid (w.heap.size + 1 < V.heap.size) := hsz
    clear hB hNP hp hrow hQ hsb nV hsz
    go_wp2_with fail
    refine hC.mono ?_
    clear hC m2 m3
    rintro e V2 ⟨ya0, yl0, yc0, ya1, yl1, yc1, fp, rfl, hO, hFr, hB2⟩
    have n2 := (hB2.block _ HSZ.out).trans HNV.out
    have e0 : V2.cell? ⟨w.heap.size + 1, 0, none⟩ = some (.slice none 0 0) := by rw [cell_of_row V2 _ 0 _ _ _ n2]; rfl
    have e1 : V2.cell? ⟨w.heap.size + 1, 1, none⟩ = some (.slice none 0 0) := by rw [cell_of_row V2 _ 1 _ _ _ n2]; rfl
    have z0 : V2.frozen? ⟨w.heap.size + 1, 0, none⟩ = false := frozen_of_row V2 _ _ _ _ n2
    have z1 : V2.frozen? ⟨w.heap.size + 1, 1, none⟩ = false := frozen_of_row V2 _ _ _ _ n2
    have HOF : Hid (VmO d V2 [.slice ya0 yl0 yc0, .slice ya1 yl1 yc1] ⟨[⟨k, 0, slotsD args g.Slots.toNat⟩], []⟩ fp ∧ Fresh V.heap.size V2 fp) := ⟨hO, hFr⟩
    have HB2 : Hid (Below V.heap.size V V2) := hB2
    clear hO hFr hB2 n2
    go_wp2_with fail
    refine bodyPost_ret (v := .tuple #[.agg #[.slice ya0 yl0 yc0, .slice ya1 yl1 yc1], .bool true]) (by first | (simp [results, Tryz.results16, go_sem, e0, e1]; done) | (simp [results, Tryz.results16, go_sem, e0, e1]; rfl)) rfl ⟨ya0, yl0, yc0, ya1, yl1, yc1, true, _, fp, rfl, ⟨.inl ⟨rfl, k, g, HNP.out, rfl⟩, VmO.lasts d _ _ _ _ _ HOF.out.1 fun x hx => ?_, HOF.out.2.1, fun x hx => ?_⟩, ?_⟩
    · have := (HOF.out.2.2 x hx).1
      have := HSZ.out
      rw [heap_setCell_other _ _ _ _ (by show x ≠ w.heap.size + 1; omega), heap_setCell_other _ _ _ _ (by show x ≠ w.heap.size + 1; omega)]
    · have := HOF.out.2.2 x hx
      have := HBV.out.size
      simp
      omega
    · exact (HBV.out.trans (HB2.out.mono HBV.out.size)).trans ⟨rfl, rfl, rfl, by simp, fun i hi => by rw [heap_setCell_other _ _ _ _ (by show i ≠ w.heap.size + 1; omega), heap_setCell_other _ _ _ _ (by show i ≠ w.heap.size + 1; omega)]⟩

end Go.Proofs.YtkkdnkdkelligaaGreatDoor

/- How many marks there are, by how great a thing is. -/
namespace Go.Proofs.YtkkdnkdkelligaaGreatDoor
open Go.RowKit
set_option linter.unusedVariables false

theorem sum_le {α : Type} {f g : α → Nat} {xs : List α} {c : Nat} (h : ∀ x ∈ xs, f x ≤ c + c * g x) : (xs.map f).sum ≤ c * szRow g xs := by
  unfold szRow
  induction xs with
  | nil => simp
  | cons x xs ih =>
    have h1 := h x (by simp)
    have h2 := ih fun y hy => h y (by simp [hy])
    simp only [List.map_cons, List.sum_cons, List.length_cons]
    have h3 : c * (xs.length + 1 + (g x + (xs.map g).sum)) = c + c * g x + c * (xs.length + (xs.map g).sum) := by
      rw [Nat.mul_add, Nat.mul_add, Nat.mul_add, Nat.mul_add, Nat.mul_one]
      omega
    rw [h3]
    omega
theorem ckIns_le (xs : List DIns) : (xs.map ckIns).sum ≤ 4 * szRow szInsD xs := sum_le fun x _ => by unfold ckIns; omega
theorem ckFn_le (xs : List DFn) : (xs.map ckFn).sum ≤ 4 * szRow szFnD xs := sum_le fun x _ => by
  have := ckIns_le x.Ins
  unfold ckFn szFnD
  omega
theorem ckPat_le : ∀ (d : Nat) (xs : List (Tm d)), (xs.map (ckPat d)).sum ≤ 4 * szRow (szPatD d) xs := by
  intro d
  induction d with
  | zero => intro xs; exact sum_le fun x _ => Empty.elim x
  | succ d ih =>
    intro xs
    refine sum_le fun x _ => ?_
    have := ih x.L
    show 1 + (1 + (1 + (x.L.map (ckPat d)).sum)) ≤ 4 + 4 * (x.S.size + szRow (szPatD d) x.L)
    omega
theorem ckSCode_le (d : Nat) (x : DCode d) : ckSCode d x ≤ 4 * szCodeD d x := by
  have h1 := ckFn_le x.Fns
  have h2 := ckPat_le d x.Pats
  unfold ckSCode szCodeD
  omega
theorem VmNewT.wf {d : Nat} {c : DCode d} {nm : ByteArray} {args : List (Tm (d + 1))} {v : DVm d} {ok : Bool} (h : VmNewT c nm args v ok) (hw : WfL (d + 1) args) (hc : c.Fns.length ≤ 1048576) (hn : args.length ≤ 1048576) : WfVm d v := by
  rcases h with ⟨_, k, g, h2, rfl⟩ | ⟨_, _, rfl⟩
  · have hk := (List.getElem?_eq_some_iff.1 h2.2.2.1).1
    have hs := (h2.1.2.2 k g h2.2.2.1).2.2.2.1
    refine ⟨⟨by simp, fun f hf => ?_⟩, by simp, fun t ht => by cases ht⟩
    obtain rfl := List.mem_singleton.1 hf
    refine ⟨⟨by show _ ≤ (k : Int); omega, by show (k : Int) ≤ _; omega⟩, ⟨by show _ ≤ (0 : Int); omega, by show (0 : Int) ≤ _; omega⟩, ?_, fun t ht => ?_⟩
    · show (slotsD args g.Slots.toNat).length ≤ _
      unfold slotsD
      simp
      omega
    · have ht' : t ∈ slotsD args g.Slots.toNat := ht
      unfold slotsD at ht'
      rcases List.mem_append.1 ht' with q | q
      · exact hw.2 t q
      · rw [(List.mem_replicate.1 q).2]
        refine ⟨⟨by show _ ≤ (0 : Int); omega, by show (0 : Int) ≤ _; omega⟩, ⟨by show _ ≤ (0 : Int); omega, by show (0 : Int) ≤ _; omega⟩, by show (0 : Nat) ≤ _; omega, ?_⟩
        show WfL d []
        cases d with
        | zero => trivial
        | succ d => exact ⟨by simp, fun t ht => by cases ht⟩
  · exact ⟨⟨by simp, fun f hf => by cases hf⟩, by simp, fun t ht => by cases ht⟩
theorem VmNewT.ck {d : Nat} {c : DCode d} {nm : ByteArray} {args : List (Tm (d + 1))} {v : DVm d} {ok : Bool} (h : VmNewT c nm args v ok) (hcnt : cntL (d + 1) args ≤ 1048576) : ckSVm d v ≤ 4000000 := by
  rcases h with ⟨_, k, g, h2, rfl⟩ | ⟨_, _, rfl⟩
  · have hs := (h2.1.2.2 k g h2.2.2.1).2.2.2.1
    have h3 := cnt_slots args g.Slots.toNat
    have h4 : ckSVm d (⟨[⟨k, 0, slotsD args g.Slots.toNat⟩], []⟩ : DVm d) = (1 + (1 + 3 * cntL (d + 1) (slotsD args g.Slots.toNat))) + 0 + 3 * cntL (d + 1) [] := rfl
    rw [h4, cntL_nil]
    omega
  · have h4 : ckSVm d (⟨[], []⟩ : DVm d) = 0 + 3 * cntL (d + 1) [] := rfl
    rw [h4, cntL_nil]
    omega

end Go.Proofs.YtkkdnkdkelligaaGreatDoor
