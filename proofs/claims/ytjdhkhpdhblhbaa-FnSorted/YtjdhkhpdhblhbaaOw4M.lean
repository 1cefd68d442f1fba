/- The program's copy of a list of terms: the walk. -/
import Derived.Test.YtjdhkhpdhblhbaaOw2M
import Derived.Test.YtjdhkhpdhblhbaaCntIM
import Derived.Test.YtjdhkhpdhblhbaaSVarsM
import Derived.Test.YtjdhkhpdhblhbaaXmM
namespace Go.Proofs.Ytjdhkhpdhblhbaa
open Go.RowKit
set_option linter.unusedVariables false

theorem Try.infoTerms : (Try.prog.info? 27).map (fun i => (i.zero, i.size, i.bytes)) = some (some (.slice none 0 0), 1, 24) := by kernel_rfl

/-- Where the copy stands, and how much waits. -/
def CpAt (w : World) (C X : Nat) (root : Pnd) (td _u : Value) (wr : World) (R : Nat) : Prop := ∃ ps S, OPhys w wr X td ps S ∧ Fut (root.d + 1) root.v root.us wr S ps ∧ wk ps = R ∧ R ≤ C

theorem oat_start {d : Nat} {w w1 W1 w2 w3 : World} {us : List (Tm (d + 1))} {g c X : Nat} (hne : us ≠ []) (hb1 : Below w.heap.size w w1) (hX : X = w1.heap.size) (hW1 : W1 = w1.alloc (.cells #[.int .i64 33554432] 125)) (hg2 : W1.grownBy w2 none) (hg : W1.heap.size ≤ g) (hcl : ClonedAt w w2 d us g c) (hw3 : w3 = w2.alloc (.cells #[.slice (some ⟨g, 0, none⟩) us.length c] 27)) :
    CpAt w (cntL (d + 1) us) X ⟨g, c, d, us⟩ (.slice (some ⟨w2.heap.size, 0, none⟩) 1 1) (.slice none 0 0) w3 (cntL (d + 1) us) := by
  have hbW : Below w1.heap.size w1 W1 := by rw [hW1]; exact (Below.refl _ _).alloc (Nat.le_refl _) _
  have hXW : W1.heap[X]? = some (.cells #[.int .i64 33554432] 125 (0, 0)) := by rw [hW1, hX]; exact heap_alloc_new w1 _
  have hb2 : Below W1.heap.size W1 w2 := ⟨hg2.os, hg2.tape, hg2.output, hg2.size, fun k hk => hg2.block k hk (by simp)⟩
  have hb3 : Below w2.heap.size w2 w3 := by rw [hw3]; exact (Below.refl _ _).alloc (Nat.le_refl _) _
  have hn3 : w3.heap[w2.heap.size]? = some (.cells #[.slice (some ⟨g, 0, none⟩) us.length c] 27 (0, 0)) := by rw [hw3]; exact heap_alloc_new w2 _
  have hbA : Below w.heap.size w w3 := hb1.trans ((hbW.trans ((hb2.trans (hb3.mono hb2.size)).mono hbW.size)).mono hb1.size)
  obtain ⟨cur, k1, k2, k3, k4⟩ := hcl
  have k1' : w3.heap[g]? = some (.cells cur 29 (0, 0)) := (hb3.block _ (lt_row k1)).trans k1
  have s1 := hb1.size
  have s2 := hbW.size
  refine ⟨[⟨g, c, d, us⟩], [], ⟨⟨by simp, .inr ⟨w2.heap.size, 1, _, rfl, ?_, hn3, Nat.le_refl _, by unfold maxLen; omega, rfl, rfl⟩⟩, fun p hp => ?_, by simp, fun b hb => by simp at hb, fun p hp => ?_, ?_, by omega, hbA⟩, Fut.start _ _, wk_one _, Nat.le_refl _⟩
  · have := hb2.size; omega
  · obtain rfl : p = _ := by simpa using hp
    exact ⟨hne, cur, k1', k4⟩
  · obtain rfl : p = _ := by simpa using hp
    show w.heap.size ≤ g
    omega
  · refine ⟨33554432, ?_, by omega, by omega⟩
    exact (hb3.block _ (Nat.lt_of_lt_of_le (lt_row hXW) hb2.size)).trans ((hb2.block _ (lt_row hXW)).trans hXW)

theorem oat_end {w wr : World} {X : Nat} {root : Pnd} {td : Value} {S : List Nat} (h : OPhys w wr X td [] S) (hf : Fut (root.d + 1) root.v root.us wr S []) : ∃ fp, OwnL (root.d + 1) wr root.v root.us fp ∧ Fresh w.heap.size wr fp ∧ Below w.heap.size w wr := by
  obtain ⟨fp, h1, h2⟩ := hf.done
  have hnd : S.Nodup := by have := h.nd; simpa using this
  exact ⟨fp, h1, ⟨h2.nodup_iff.2 hnd, fun g hg => ⟨(h.hi g (h2.mem_iff.1 hg)).1, (h.hi g (h2.mem_iff.1 hg)).2.lt⟩⟩, h.bel⟩

theorem empty_len {w : World} {B : Nat} {e : TypeId} {v : Value} (h : w.ownsRow B e 1 v 0 []) : ∃ a c, v = .slice a 0 c := by
  rcases h.2 with ⟨rfl, _⟩ | ⟨g, c, cur, rfl, _⟩
  · exact ⟨_, _, rfl⟩
  · exact ⟨_, _, rfl⟩

theorem IInv.texts {w0 wr w3 : World} {X : Nat} {root : Pnd} {S : List Nat} {rest : List Pnd} {p : Pnd} {k : Nat} {todo todo' : Value} {cs cs' : List Pnd} {cur : Array Value} {t : Tm (p.d + 1)} (h : IInv w0 wr X root S rest p k todo cs cur) (ht : p.us[k]? = some t)
    (hph : OPhys w0 w3 X todo' (rest ++ cs') (S ++ [p.g])) (hsame : ∀ j, IsT wr j → w3.heap[j]? = wr.heap[j]?) (lv : Value) (hlv : cur[k * 4 + 3]? = some lv) (W : World) (hW : Below w3.heap.size w3 W) :
    Calls Try.prog 77 #[.pointer (some ⟨X, 0, none⟩), .string t.S] W fun e w4 => e = .returned (.string t.S) ∧ Hid (w3.grownBy w4 (some X) ∧ Room w4 X) ∧ w4.cell? ⟨p.g, k * 4 + 3, none⟩ = some lv ∧ w4.frozen? ⟨p.g, k * 4 + 3, none⟩ = false ∧ w4.cell? ⟨p.g, k * 4 + 2, none⟩ = some (.string t.S) ∧ w4.frozen? ⟨p.g, k * 4 + 2, none⟩ = false := by
  have hph1 := hph.below hW
  obtain ⟨x, hx, x0, x1⟩ := hph1.tx
  obtain ⟨lv', hc, _⟩ := h.left k t (Nat.le_refl _) ht
  have hrow3 : w3.heap[p.g]? = some (.cells cur 29 (0, 0)) := (hsame p.g ⟨cur, h.row⟩).trans h.row
  have hA2 := (hW.block p.g (lt_row hrow3)).trans hrow3
  refine (textOwn_any X x t.S W hx x0 x1).mono ?_
  rintro e w4 ⟨rfl, hg, x', y1, y2, y3⟩
  have hA4 := (hg.block p.g (lt_row hA2) fun e => (hph1.tx.ne ⟨_, hA2⟩) (Option.some.inj e)).trans hA2
  refine ⟨rfl, ⟨⟨hg.os.trans hW.os, hg.tape.trans hW.tape, hg.output.trans hW.output, Nat.le_trans hW.size hg.size, fun j hj hne => (hg.block j (Nat.lt_of_lt_of_le hj hW.size) hne).trans (hW.block j hj)⟩, x', y1, y2, y3⟩, ?_, frozen_of_row w4 _ _ _ _ hA4, ?_, frozen_of_row w4 _ _ _ _ hA4⟩
  · rw [cell_of_row w4 _ _ _ _ _ hA4]; exact hlv
  · rw [cell_of_row w4 _ _ _ _ _ hA4]; exact hc.2.2.1

/-- What comes back. -/
def OwnRes (d n : Nat) (us : List (Tm (d + 1))) (w : World) (e : Ending) (w' : World) : Prop := ∃ g c fp, e = .returned (.slice (some ⟨g, 0, none⟩) n c) ∧ OwnL (d + 1) w' (.slice (some ⟨g, 0, none⟩) n c) us fp ∧ Fresh w.heap.size w' fp ∧ Below w.heap.size w w'

set_option maxRecDepth 100000 in
set_option maxHeartbeats 4000000 in
theorem ownTrees_some (d : Nat) (v : Value) (us : List (Tm (d + 1))) (w : World) (hr : RdQ (d + 1) w v us) (hne : us ≠ []) (hc : cntL (d + 1) us ≤ 33554432) :
    Calls Try.prog 65 #[v] w fun e w' => OwnRes d us.length us w e w' := by
  obtain ⟨i0, hi, hz0, hz1, hz2⟩ := info_parts Try.infoTerm
  obtain ⟨j0, hj, hy0, hy1, hy2⟩ := info_parts Try.infoTerms
  have hM := measureOf_any (d + 1) v us w hr (by omega)
  obtain ⟨b, o, c, rfl, hp, hel⟩ := hr.open hne
  obtain ⟨news, n1, n2, n3, n4⟩ := rdq_cells w us b o hel
  have h0 : 0 < us.length := List.length_pos_iff.2 hne
  have hlc := len_cnt us
  obtain ⟨n, hn⟩ : ∃ n, us.length = n := ⟨_, rfl⟩
  have HN : Hid (us.length = n ∧ us ≠ []) := ⟨hn, hne⟩
  have HC4 : Hid _ := n4
  have HC2 : Hid (∀ j u, news[j]? = some u → w.cell? ⟨b, o + j, none⟩ = some u) := n2
  obtain ⟨C, hCe⟩ : ∃ C, cntL (d + 1) us = C := ⟨_, rfl⟩
  obtain ⟨P, hPe⟩ : ∃ P : Int, ((depL (d + 1) us : Nat) : Int) = P := ⟨_, rfl⟩
  have HCE : Hid (cntL (d + 1) us = C) := hCe
  rw [hCe, hPe, hn] at hM
  rw [hCe] at hc hlc
  rw [hn] at n1 h0 hlc ⊢
  clear n2 n4 hr hel hne hn hCe hPe hp
  have hf0 := fld0 (C : Int) P
  have hcm : decide ((33554432 : Int) < (C : Int)) = false := by simp; omega
  go_enter Try.func65, Try.ntmps65
  go_wp2_with fail
  refine hM.mono ?_
  clear hM
  rintro e w1 ⟨rfl, hb1⟩
  obtain ⟨W1, hW1⟩ : ∃ W, W = w1.alloc (.cells #[.int .i64 33554432] 125) := ⟨_, rfl⟩
  have hbW : Below w1.heap.size w1 W1 := by rw [hW1]; exact (Below.refl _ _).alloc (Nat.le_refl _) _
  have HA : Hid (∀ j u, news[j]? = some u → W1.cell? ((⟨b, o, none⟩ : Addr).add j) = some u) := fun j u hu => by
    rw [Addr.add_lit]
    exact cell_later hbW (cell_later hb1 (HC2.out j u hu))
  have HB1 : Hid (Below w.heap.size w w1) := hb1
  have HW1 : Hid (W1 = _) := hW1
  rw [hW1] at HA
  clear hW1 hbW hb1
  go_wp2_with (at_builtin; refine wpList_append_own _ rfl _ _ 27 rfl (w1.heap.size + 1) 29 i0 _ 4 56 Try.underlying27 hi hz0 hz1 hz2 rfl (by decide) _ 0 [] rfl (World.ownsRow_nil _ _ _ _) ⟨b, o, none⟩ n c news rfl n1 HA.out n3 (by unfold maxLen; omega) (by omega) (by simp) ?_)
  intro v' w2 hown hgrow hnil
  have hown' : w2.ownsRow (w1.heap.size + 1) 29 4 v' n news := by simpa using hown
  obtain ⟨g, c', rfl, hg, hcl⟩ := cloned_of HN.out.1 h0 hown' HC4.out
  obtain ⟨w3, hw3⟩ : ∃ W, W = w2.alloc (.cells #[.slice (some ⟨g, 0, none⟩) n c'] 27) := ⟨_, rfl⟩
  have hO := oat_start (d := d) (us := us) (w3 := w3) HN.out.2 HB1.out rfl HW1.out (by rw [HW1.out]; exact hgrow) (by rw [HW1.out]; simpa using hg) hcl (by rw [HN.out.1]; exact hw3)
  rw [HCE.out] at hO
  obtain ⟨X, hX⟩ : ∃ X, w1.heap.size = X := ⟨_, rfl⟩
  rw [hX] at hO ⊢
  have HO : Hid (CpAt w C X ⟨g, c', d, us⟩ (.slice (some ⟨w2.heap.size, 0, none⟩) 1 1) (.slice none 0 0) w3 C) := hO
  rw [hw3] at HO
  clear hO hown hgrow hnil hown' hcl hg HA HW1 HC2 HC4 n1 n3 hX hw3 HB1
  obtain ⟨μ, hμ⟩ := least_work (CpAt w C X ⟨g, c', d, us⟩)
  have HMU : Hid (∀ a b c n, CpAt w C X ⟨g, c', d, us⟩ a b c n → CpAt w C X ⟨g, c', d, us⟩ a b c (μ a b c) ∧ μ a b c ≤ n) := hμ
  clear hμ
  go_wp2_with fail
  go_loopw [6] (fun td wr => Hid (∃ R, CpAt w C X ⟨g, c', d, us⟩ td (.slice none 0 0) wr R)) (fun td wr => μ td (.slice none 0 0) wr)
  case atStart => exact ⟨C, HO.out⟩
  case round =>
    obtain ⟨wo, rfl⟩ : ∃ wo : World, wo = wr := ⟨_, rfl⟩
    obtain ⟨R0, hR0⟩ := hrel.out
    have hMR := (HMU.out _ _ _ _ hR0).1
    obtain ⟨R, hRe⟩ : ∃ R, μ u6 (.slice none 0 0) wo = R := ⟨_, rfl⟩
    rw [hRe] at hMR
    have HRE : Hid (μ u6 (.slice none 0 0) wo = R) := hRe
    clear HO hrel hR0 hRe
    obtain ⟨ps, S, hph, hfut, hwk, hRC⟩ := hMR
    rcases List.eq_nil_or_concat ps with rfl | ⟨rest, p, rfl⟩
    · obtain ⟨a0, c0, rfl⟩ := empty_len (by simpa using hph.row)
      have HE : Hid _ := oat_end hph hfut
      have HNL : Hid (us.length = n) := HN.out.1
      clear hph hfut
      go_wp2_with fail
      go_ret
      obtain ⟨fp, e1, e2, e3⟩ := HE.out
      have e1' : OwnL (d + 1) wo (.slice (some ⟨g, 0, none⟩) us.length c') us fp := e1
      rw [HNL.out] at e1'
      exact ⟨g, c', fp, rfl, e1', e2, e3⟩
    · rw [List.concat_eq_append] at hph hfut hwk
      obtain ⟨gT, cap, rfl, hcT, hcap, hph1⟩ := hph.pop
      have hhalf := hph.half p (by simp)
      have hpos : 0 < p.us.length := List.length_pos_iff.2 hhalf.1
      obtain ⟨cur0, hI0⟩ := IInv.start hph1 hfut hhalf
      have hlenp : p.us.length ≤ R := by have := len_cnt p.us; rw [wk_append, wk_one] at hwk; omega
      have hrl : rest.length ≤ R := by
        have h2 := wk_len rest fun q hq => (hph.half q (List.mem_append_left _ hq)).1
        rw [wk_append] at hwk; omega
      obtain ⟨m, hm⟩ : ∃ m, rest.length = m := ⟨_, rfl⟩
      obtain ⟨len, hlen⟩ : ∃ len, p.us.length = len := ⟨_, rfl⟩
      have HLN : Hid (p.us.length = len) := hlen
      have hpv : p.v = .slice (some ⟨p.g, 0, none⟩) len p.c := by rw [← hlen]; rfl
      have HI0 : Hid (IInv w wo X ⟨g, c', d, us⟩ S rest p 0 (.slice (some ⟨gT, 0, none⟩) m cap) [] cur0) := by rw [← hm]; exact hI0
      have HWK : Hid (wk (rest ++ [p]) = R) := hwk
      have HRE2 : Hid (μ (.slice (some ⟨gT, 0, none⟩) (m + 1) cap) (.slice none 0 0) wo = R) := by rw [← hm]; exact HRE.out
      clear HRE
      rw [hpv] at hcT
      rw [hm] at hcT hrl hcap ⊢
      rw [hlen] at hpos hlenp
      clear hph hfut hph1 hhalf hI0 hwk hm hlen hpv
      go_wp2_with fail
      go_loopw [6, 38] (fun td i wr => Hid (∃ (k : Nat) (cs : List Pnd) (cur : Array Value), k ≤ len ∧ i = .int .i64 k ∧ IInv w wr X ⟨g, c', d, us⟩ S rest p k td cs cur)) (fun _ i _ => len - (intOf i).toNat)
      case atStart => exact ⟨0, [], cur0, Nat.zero_le _, rfl, HI0.out⟩
      case round =>
        obtain ⟨k, cs, cur, hk, rfl, hI⟩ := hrel.out
        clear hrel HI0
        by_cases hkl : k < len
        · obtain ⟨t, ht⟩ : ∃ t, p.us[k]? = some t := ⟨_, List.getElem?_eq_getElem (by rw [HLN.out]; exact hkl)⟩
          obtain ⟨lv, hcl, hrd⟩ := hI.left k t (Nat.le_refl _) ht
          obtain ⟨la, lc, hlv⟩ := hrd.len
          have hrow := hI.row
          have t0 : wr.cell? ⟨p.g, k * 4, none⟩ = some (.int .i64 t.K) := by rw [cell_of_row wr _ _ _ _ _ hrow]; exact hcl.1
          have t1 : wr.cell? ⟨p.g, k * 4 + 1, none⟩ = some (.int .i64 t.N) := by rw [cell_of_row wr _ _ _ _ _ hrow]; exact hcl.2.1
          have t2 : wr.cell? ⟨p.g, k * 4 + 2, none⟩ = some (.string t.S) := by rw [cell_of_row wr _ _ _ _ _ hrow]; exact hcl.2.2.1
          have t3 : wr.cell? ⟨p.g, k * 4 + 3, none⟩ = some lv := by rw [cell_of_row wr _ _ _ _ _ hrow]; exact hcl.2.2.2
          have HPT : Hid (∀ W : World, Calls Try.prog 108 #[.pointer (some ⟨p.g, k * 4, none⟩)] W fun e w' => e = .returned (.pointer (some ⟨p.g, k * 4 + 3, none⟩)) ∧ W = w') := fun W => tpParts_any p.g (k * 4) W
          have HTT : Hid (∀ W : World, Calls Try.prog 109 #[.pointer (some ⟨p.g, k * 4, none⟩)] W fun e w' => e = .returned (.pointer (some ⟨p.g, k * 4 + 2, none⟩)) ∧ W = w') := fun W => tpText_any p.g (k * 4) W
          have HCL : Hid (cur[k * 4 + 3]? = some lv) := hcl.2.2.2
          have HC2 : Hid (cur[k * 4 + 2]? = some (.string t.S)) := hcl.2.2.1
          have hpz : p.g < wr.heap.size := lt_row hrow
          have HI : Hid (IInv w wr X ⟨g, c', d, us⟩ S rest p k u6 cs cur) := hI
          have HT : Hid (p.us[k]? = some t) := ht
          by_cases hL : t.L = []
          · rw [hL] at hlv
            have hlv0 : lv = .slice la 0 lc := hlv
            subst hlv0
            have hC := fun W : World => copiesOf_empty la lc W
            clear hlv hcl hrd hI ht t0 t1
            go_wp2_with fail
            go_region_with (first | (go_at_call 108; refine (HPT.out _).mono ?_; rintro e w5 ⟨rfl, rfl⟩) | (go_at_call 109; refine (HTT.out _).mono ?_; rintro e w5 ⟨rfl, rfl⟩))
            go_wp2_with fail
            refine (hC _).mono ?_
            clear hC t2 t3
            rintro e w1 ⟨rfl, hb1⟩
            have hb01 : Below wr.heap.size wr w1 := (Below.refl wr.heap.size wr).drew.trans hb1
            have hsame : ∀ j, IsT wr j → w1.heap[j]? = wr.heap[j]? := fun j hj => hb01.block j hj.lt
            have hph3 := HI.out.ph.below hb01
            have HTX : Hid (∀ W : World, _ → _) := HI.out.texts HT.out hph3 hsame (.slice la 0 lc) HCL.out
            have HST : Hid (∀ w4 : World, w1.grownBy w4 (some X) → Room w4 X → ∃ cur', IInv w ((w4.setCell ⟨p.g, k * 4 + 3, none⟩ (.slice none 0 0)).setCell ⟨p.g, k * 4 + 2, none⟩ (.string t.S)) X ⟨g, c', d, us⟩ S rest p (k + 1) u6 cs cur') := fun w4 h4 h5 =>
              HI.out.step HT.out hph3 hsame h4 h5 (fun cur' q1 q2 => HI.out.rf.empty HT.out q1 q2 hL) (by rw [hL, cntL_nil]; rfl)
            have hh1 := (hb01.block _ hpz).trans HI.out.row
            have t2 : w1.cell? ⟨p.g, k * 4 + 2, none⟩ = some (.string t.S) := by rw [cell_of_row w1 _ _ _ _ _ hh1]; exact HC2.out
            clear hh1 hph3 hsame hb01 hb1
            go_wp2_with fail
            refine (HTX.out _ (Below.refl _ _)).mono ?_
            clear t2
            rintro e w4 ⟨rfl, HG4, x3, z3, x2, z2⟩
            have HF : Hid _ := HST.out w4 HG4.out.1 HG4.out.2
            clear HST HG4 HTX
            go_wp2_with fail
            go_roundw
            case rel =>
              obtain ⟨cur', hF⟩ := HF.out
              exact ⟨k + 1, cs, cur', by omega, by go_num, hF⟩
            case measure => simp [intOf]; omega
          · obtain ⟨e, hde⟩ : ∃ e, p.d = e + 1 := by
              cases hd : p.d with
              | zero =>
                exfalso
                apply hL
                obtain ⟨pg, pc, pd, pus⟩ := p
                simp only at hd
                subst hd
                exact tm0 _
              | succ e => exact ⟨e, rfl⟩
            obtain ⟨pg, pc, pd, pus⟩ := p
            simp only at hde
            subst hde
            simp only at *
            have hcntL : t.L.length ≤ 33554432 := by
              have h1 := cntP_succ (e + 1) pus k t HT.out
              have h2 := cntP_le (e + 1) pus (k + 1)
              have h3 : t.L.length ≤ cntL (e + 1) t.L := len_cnt t.L
              have h4 := HWK.out
              rw [wk_append, wk_one] at h4
              simp only at h4
              omega
            have hnl : (rest ++ cs).length + 1 ≤ 67108865 := by
              have h1 := HI.out.work
              simp only at h1
              have h2 := cntP_le (e + 1) pus k
              have h4 := HWK.out
              rw [wk_append, wk_one] at h4
              simp only at h4
              have h5 := wk_len (rest ++ cs) fun q hq => (HI.out.ph.half q hq).1
              rw [wk_append] at h5
              omega
            have hbW : Below wr.heap.size wr wr.drew := (Below.refl _ _).drew
            have hC := copiesOf_any e lv t.L w wr.drew hrd (hI.ph.bel.trans (hbW.mono hI.ph.bel.size)) hL (by omega)
            obtain ⟨ll, hll⟩ : ∃ l, t.L.length = l := ⟨_, rfl⟩
            have HLL : Hid (t.L.length = ll) := hll
            rw [hll] at hC hlv
            obtain ⟨q, hq⟩ : ∃ q, (rest ++ cs).length = q := ⟨_, rfl⟩
            have HQ : Hid ((rest ++ cs).length = q) := hq
            rw [hq] at hnl
            subst hlv
            clear hcl hrd hI hrow ht hll hq hcntL t0 t1
            go_wp2_with fail
            go_region_with (first | (go_at_call 108; refine (HPT.out _).mono ?_; rintro e w5 ⟨rfl, rfl⟩) | (go_at_call 109; refine (HTT.out _).mono ?_; rintro e w5 ⟨rfl, rfl⟩))
            go_wp2_with fail
            refine hC.mono ?_
            clear hC t2 t3
            rintro e2 w1 ⟨g1, c1, rfl, hg1, hcl1, hb1⟩
            have hb01 : Below wr.heap.size wr w1 := hbW.trans (hb1.mono hbW.size)
            have hwg : w1.ownsRow w.heap.size 27 1 u6 q ((rest ++ cs).map Pnd.v) := by rw [← HQ.out]; exact (HI.out.ph.below hb01).row
            have HCL1 : Hid (ClonedAt w w1 e t.L g1 c1 ∧ wr.heap.size ≤ g1 ∧ Below wr.heap.size wr w1) := ⟨hcl1, hg1, hb01⟩
            have hlow : w.heap.size ≤ w1.heap.size := (HI.out.ph.below hb01).bel.size
            clear hcl1 hg1 hb1 hb01 hbW
            go_wp2_with (at_builtin; refine wpList_append_own _ rfl _ _ 126 rfl w.heap.size 27 j0 _ 1 24 Try.underlying126 hj hy0 hy1 hy2 rfl (by decide) _ q _ rfl (hwg.alloc _) ⟨w1.heap.size, 0, none⟩ 1 1 [.slice (some ⟨g1, 0, none⟩) ll c1] rfl rfl (new_one _ _ rfl) (by intro u hu; simp at hu; subst hu; rfl) (by unfold maxLen; omega) (by omega) (by simp; omega) ?_)
            intro td' w3 hown3 hgr3 hnil3
            have hown3' : w3.ownsRow w.heap.size 27 1 td' ((rest ++ cs).length + 1) ((rest ++ cs).map Pnd.v ++ [Pnd.v ⟨g1, c1, e, t.L⟩]) := by
              rw [HQ.out]
              have : Pnd.v ⟨g1, c1, e, t.L⟩ = .slice (some ⟨g1, 0, none⟩) ll c1 := by rw [← HLL.out]; rfl
              rw [this, List.map_append, List.append_assoc]; exact hown3
            have hA1 : Below w1.heap.size w1 (w1.alloc (.cells #[.slice (some ⟨g1, 0, none⟩) ll c1] 27)) := (Below.refl _ _).alloc (Nat.le_refl _) _
            have hgr3' : (w1.alloc (.cells #[.slice (some ⟨g1, 0, none⟩) ll c1] 27)).grownBy w3 u6.ownBlock := hgr3
            obtain ⟨P1, P2⟩ := HI.out.ph.push ⟨g1, c1, e, t.L⟩ hL HCL1.out.2.1 HCL1.out.2.2 HCL1.out.1 hA1 hown3' hgr3'
            rw [List.append_assoc] at P1
            have HTX : Hid (∀ W : World, _ → _) := HI.out.texts HT.out P1 P2 (.slice la ll lc) HCL.out
            have HST : Hid (∀ w4 : World, w3.grownBy w4 (some X) → Room w4 X → ∃ cur', IInv w ((w4.setCell ⟨pg, k * 4 + 3, none⟩ (.slice (some ⟨g1, 0, none⟩) ll c1)).setCell ⟨pg, k * 4 + 2, none⟩ (.string t.S)) X ⟨g, c', d, us⟩ S rest ⟨pg, pc, e + 1, pus⟩ (k + 1) td' (cs ++ [⟨g1, c1, e, t.L⟩]) cur') := fun w4 h4 h5 =>
              HI.out.step HT.out P1 P2 h4 h5 (fun cur' q1 q2 => RowFut.push HI.out.rf HT.out q1 (by rw [HLL.out]; exact q2)) (by rw [wk_append, wk_one])
            have hh1 := (P2 pg ⟨cur, HI.out.row⟩).trans HI.out.row
            have t2 : w3.cell? ⟨pg, k * 4 + 2, none⟩ = some (.string t.S) := by rw [cell_of_row w3 _ _ _ _ _ hh1]; exact HC2.out
            clear hh1 P1 P2 hA1 hgr3' hown3' hgr3 hown3 hnil3 hwg HCL1 hlow
            go_wp2_with fail
            refine (HTX.out _ (Below.refl _ _)).mono ?_
            clear t2
            rintro e5 w4 ⟨rfl, HG4, x3, z3, x2, z2⟩
            have HF : Hid _ := HST.out w4 HG4.out.1 HG4.out.2
            clear HST HG4 HTX
            go_wp2_with fail
            go_roundw
            case rel =>
              obtain ⟨cur', hF⟩ := HF.out
              exact ⟨k + 1, _, cur', by omega, by go_num, hF⟩
            case measure => simp [intOf]; omega
        · obtain rfl : k = len := by omega
          have hI' := hI
          rw [← HLN.out] at hI'
          obtain ⟨D1, D2, D3⟩ := hI'.done
          have HD : Hid (CpAt w C X ⟨g, c', d, us⟩ u6 (.slice none 0 0) wr (wk (rest ++ cs))) := ⟨rest ++ cs, _, D1, D2, rfl, by have := HWK.out; omega⟩
          have HLT : Hid (wk (rest ++ cs) < R) := by have h1 := HWK.out; have h2 := HLN.out; show _ < _; omega
          clear D1 D2 D3 hI hI'
          go_wp2_with fail
          go_roundw
          case rel => exact ⟨_, HD.out⟩
          case measure =>
            have h1 := (HMU.out _ _ _ _ HD.out).2
            have h2 := HRE2.out
            have h3 := HLT.out
            omega

set_option maxRecDepth 100000 in
theorem ownTerms_some (d : Nat) (v : Value) (us : List (Tm (d + 1))) (w : World) (hr : RdQ (d + 1) w v us) (hne : us ≠ []) (hc : cntL (d + 1) us ≤ 33554432) :
    Calls Try.prog 52 #[v] w fun e w' => OwnRes d us.length us w e w' := by
  have hC := ownTrees_some d v us w hr hne hc
  obtain ⟨n, hn⟩ : ∃ n, us.length = n := ⟨_, rfl⟩
  rw [hn] at hC ⊢
  clear hr hne hc hn
  go_enter Try.func52, Try.ntmps52
  go_wp2_with fail
  refine hC.mono ?_
  clear hC
  rintro e w' ⟨g, c, fp, rfl, h1, h2, h3⟩
  have HX : Hid (OwnL (d + 1) w' (.slice (some ⟨g, 0, none⟩) n c) us fp ∧ Fresh w.heap.size w' fp ∧ Below w.heap.size w w') := ⟨h1, h2, h3⟩
  clear h1 h2 h3
  go_wp2_with fail
  go_ret
  exact ⟨g, c, fp, rfl, HX.out.1, HX.out.2.1, HX.out.2.2⟩

end Go.Proofs.Ytjdhkhpdhblhbaa

/- The program's copy of one term. -/
namespace Go.Proofs.Ytjdhkhpdhblhbaa
open Go.RowKit
set_option linter.unusedVariables false

theorem own_one {d : Nat} {w : World} {g c : Nat} {k n : Int} {s : ByteArray} {ts : List (Tm d)} {fp : List Nat} (h : OwnL (d + 1) w (.slice (some ⟨g, 0, none⟩) 1 c) [mkT k n s ts] fp) :
    ∃ cur a l c' f, w.heap[g]? = some (.cells cur 29 (0, 0)) ∧ fp = g :: f ∧ cur[0]? = some (.int .i64 k) ∧ cur[1]? = some (.int .i64 n) ∧ cur[2]? = some (.string s) ∧ cur[3]? = some (.slice a l c') ∧ OwnL d w (.slice a l c') ts f := by
  rcases h with ⟨h, _⟩ | ⟨g', c', cur, fps, h1, h2, h3, rfl, h4⟩
  · simp at h
  · simp only [Value.slice.injEq, Option.some.injEq, Addr.mk.injEq, and_true] at h1
    obtain ⟨rfl, _⟩ := h1
    obtain ⟨lv, f, e0, e1, e2, e3, e4, e5⟩ := h4 0 _ rfl
    obtain ⟨a, l, c2, rfl⟩ := e5.rd.shape
    match fps, h3 with
    | [f'], _ =>
      simp only [List.getElem?_cons_zero, Option.some.injEq] at e0
      subst e0
      exact ⟨cur, a, l, c2, f', h2, by simp, e1, e2, e3, e4, e5⟩

set_option maxRecDepth 100000 in
set_option maxHeartbeats 1000000 in
theorem ownTerm_any (d : Nat) (k n : Int) (s : ByteArray) (l : Value) (ts : List (Tm d)) (w : World) (hr : RdQ d w l ts) (hc : cntL d ts ≤ 33554431) :
    Calls Try.prog 44 #[.agg #[.int .i64 k, .int .i64 n, .string s, l]] w fun e w' => ∃ a' l' c' fp, e = .returned (.agg #[.int .i64 k, .int .i64 n, .string s, .slice a' l' c']) ∧ Hid (OwnL d w' (.slice a' l' c') ts fp ∧ Fresh w.heap.size w' fp) ∧ Below w.heap.size w w' := by
  obtain ⟨W2, hW2⟩ : ∃ W, W = (w.alloc (.cells #[.int .i64 k, .int .i64 n, .string s, l] 29)).alloc (.cells #[.int .i64 0, .int .i64 0, .string ⟨#[]⟩, .slice none 0 0] 29) := ⟨_, rfl⟩
  have hA2 : Below w.heap.size w W2 := by rw [hW2]; exact ((Below.refl _ _).alloc (Nat.le_refl _) _).alloc (by simp) _
  have hz2 : W2.heap.size = w.heap.size + 1 + 1 := by rw [hW2]; simp
  obtain ⟨W3, hW3⟩ : ∃ W, W = W2.alloc (.cells #[.int .i64 k, .int .i64 n, .string s, l] 29) := ⟨_, rfl⟩
  have hA3 : Below W2.heap.size W2 W3 := by rw [hW3]; exact (Below.refl _ _).alloc (Nat.le_refl _) _
  have hz3 : W3.heap.size = w.heap.size + 1 + 1 + 1 := by rw [hW3]; simp [hz2]
  have hC := ownTerms_some d (.slice (some ⟨W2.heap.size, 0, none⟩) 1 1) [mkT k n s ts] W3 (by rw [hW3]; exact one_rdq (hr.later hA2)) (by simp) (by rw [(one_cnt k n s ts).1]; omega)
  have hn1 : W3.heap[w.heap.size + 1]? = some (.cells #[.int .i64 0, .int .i64 0, .string ⟨#[]⟩, .slice none 0 0] 29 (0, 0)) := by
    refine (hA3.block _ (by omega)).trans ?_
    rw [hW2]
    have := heap_alloc_new (w.alloc (.cells #[.int .i64 k, .int .i64 n, .string s, l] 29)) (.cells #[.int .i64 0, .int .i64 0, .string ⟨#[]⟩, .slice none 0 0] 29)
    simpa using this
  have hbw3 : Below w.heap.size w W3 := hA2.trans (hA3.mono hA2.size)
  rw [hz2] at hC
  have HW3 : Hid (W3 = _) := hW3
  have HW2 : Hid (W2 = _) := hW2
  rw [hW3, hW2] at hC
  clear hW3 hW2 hr hA3 hA2
  go_enter Try.func44, Try.ntmps44
  go_wp2_with fail
  refine hC.mono ?_
  clear hC
  rw [← HW2.out, ← HW3.out]
  rintro e w4 ⟨g, c, fp, rfl, hown, hfr, hb⟩
  obtain ⟨cur, a, l4, c4, f, q1, rfl, q2, q3, q4, q5, q6⟩ := own_one hown
  have hn4 := (hb.block _ (lt_row hn1)).trans hn1
  have c0 : w4.cell? ⟨g, 0, none⟩ = some (.int .i64 k) := by rw [cell_of_row w4 _ 0 _ _ _ q1]; exact q2
  have c1 : w4.cell? ⟨g, 1, none⟩ = some (.int .i64 n) := by rw [cell_of_row w4 _ 1 _ _ _ q1]; exact q3
  have c2 : w4.cell? ⟨g, 2, none⟩ = some (.string s) := by rw [cell_of_row w4 _ 2 _ _ _ q1]; exact q4
  have c3 : w4.cell? ⟨g, 3, none⟩ = some (.slice a l4 c4) := by rw [cell_of_row w4 _ 3 _ _ _ q1]; exact q5
  have b0 : w4.cell? ⟨w.heap.size + 1, 0, none⟩ = some (.int .i64 0) := by rw [cell_of_row w4 _ 0 _ _ _ hn4]; rfl
  have b1 : w4.cell? ⟨w.heap.size + 1, 1, none⟩ = some (.int .i64 0) := by rw [cell_of_row w4 _ 1 _ _ _ hn4]; rfl
  have b2 : w4.cell? ⟨w.heap.size + 1, 2, none⟩ = some (.string ⟨#[]⟩) := by rw [cell_of_row w4 _ 2 _ _ _ hn4]; rfl
  have b3 : w4.cell? ⟨w.heap.size + 1, 3, none⟩ = some (.slice none 0 0) := by rw [cell_of_row w4 _ 3 _ _ _ hn4]; rfl
  have y0 : w4.frozen? ⟨w.heap.size + 1, 0, none⟩ = false := frozen_of_row w4 _ _ _ _ hn4
  have y1 : w4.frozen? ⟨w.heap.size + 1, 1, none⟩ = false := frozen_of_row w4 _ _ _ _ hn4
  have y2 : w4.frozen? ⟨w.heap.size + 1, 2, none⟩ = false := frozen_of_row w4 _ _ _ _ hn4
  have y3 : w4.frozen? ⟨w.heap.size + 1, 3, none⟩ = false := frozen_of_row w4 _ _ _ _ hn4
  have hfg := (hfr.2 g (List.mem_cons_self ..)).1
  have HFIN : Hid (∀ Z, Kept (w.heap.size + 1) (w.heap.size + 1 + 1) w4 Z → (OwnL d Z (.slice a l4 c4) ts f ∧ Fresh w.heap.size Z f) ∧ Below w.heap.size w Z) := fun Z hZ => by
    have hzZ := hZ.size
    refine ⟨⟨q6.frame fun x hx => ?_, (List.nodup_cons.1 hfr.1).2, fun x hx => ?_⟩, ?_⟩
    · have := hfr.2 x (List.mem_cons_of_mem _ hx)
      exact hZ.block x this.2 (.inr (by omega))
    · have := hfr.2 x (List.mem_cons_of_mem _ hx)
      omega
    · have hbw4 : Below w.heap.size w w4 := hbw3.trans (hb.mono hbw3.size)
      exact hbw4.trans (hZ.below (by omega) hbw4.size)
  clear hn4 hown hfr hb q1 q2 q3 q4 q5 q6 hn1 hbw3
  have hgne : ¬ g = w.heap.size + 1 := by omega
  go_wp2_with fail
  refine bodyPost_ret (v := .agg #[.int .i64 k, .int .i64 n, .string s, .slice a l4 c4]) (by first | (simp [results, Try.results44, go_sem, b0, b1, b2, b3]; done) | (simp [results, Try.results44, go_sem, b0, b1, b2, b3]; rfl)) rfl ⟨a, l4, c4, f, rfl, (HFIN.out _ ?k).1, (HFIN.out _ ?k).2⟩
  repeat (first | with_reducible exact Kept.refl _ _ _ | with_reducible refine Kept.drew ?_ | (with_reducible refine Kept.set ?_ ?_; omega))

end Go.Proofs.Ytjdhkhpdhblhbaa
