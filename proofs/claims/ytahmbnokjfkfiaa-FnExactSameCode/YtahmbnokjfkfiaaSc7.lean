/- The model's SameCode, whole. -/
import Derived.Test.YtahmbnokjfkfiaaSc1
import Derived.Test.YtahmbnokjfkfiaaLo1
namespace Go.Proofs.Ytahmbnokjfkfiaa
open Go.RowKit
set_option linter.unusedVariables false

def pSameCode {d : Nat} (a b : DCode d) : Prop := a = b

set_option maxHeartbeats 2000000 in
theorem specSameCode_no (a3 : Option Addr) (l3 c3 : Nat) (a4 : Option Addr) (l4 c4 : Nat) (b3 : Option Addr) (m3 d3 : Nat) (b4 : Option Addr) (m4 d4 : Nat) (w : World) (q3 : l3 ≤ 1048576) (q4 : l4 ≤ 1048576) (r3 : m3 ≤ 1048576) (r4 : m4 ≤ 1048576) (h : ¬ (l3 = m3 ∧ l4 = m4)) :
    Calls Try.prog 11 #[.agg #[.slice a3 l3 c3, .slice a4 l4 c4], .agg #[.slice b3 m3 d3, .slice b4 m4 d4]] w fun e w' => e = .returned (.bool false) ∧ Below w.heap.size w w' := by
  have hA : Below w.heap.size w ((w.alloc (.cells #[.slice a3 l3 c3, .slice a4 l4 c4] 38)).alloc (.cells #[.slice b3 m3 d3, .slice b4 m4 d4] 38)) := ((Below.refl _ _).alloc (Nat.le_refl _) _).alloc (by simp) _
  by_cases h3 : l3 = m3
  · subst h3
    have h4 : ¬ l4 = m4 := fun e => h ⟨rfl, e⟩
    have h4' : ((l4 : Int) != (m4 : Int)) = true := by simp; omega
    clear h
    go_enter Try.func11, Try.ntmps11
    go_wp2_with fail
    go_ret
    exact ⟨rfl, hA⟩
  · have h3' : ((l3 : Int) != (m3 : Int)) = true := by simp; omega
    clear h
    go_enter Try.func11, Try.ntmps11
    go_wp2_with fail
    go_ret
    exact ⟨rfl, hA⟩

set_option maxRecDepth 100000 in
set_option maxHeartbeats 8000000 in
theorem specSameCode_any (d : Nat) (vs : List Value) (x : DCode d) (us : List Value) (y : DCode d) (w : World) (hr : CodeR d w vs x) (hw : WfCode d x) (hz : szCodeD d x ≤ 1048576) (hs : CodeR d w us y) (hw2 : WfCode d y) (hy : szCodeD d y ≤ 1048576) :
    Calls Try.prog 11 #[.agg vs.toArray, .agg us.toArray] w fun e w' => BRes (pSameCode x y) w e w' := by
  obtain ⟨v3, v4, rfl, h1, h2⟩ := hr
  obtain ⟨u3, u4, rfl, g1, g2⟩ := hs
  have hz' : szRow szFnD x.Fns + szRow (szPatD d) x.Pats ≤ 1048576 := hz
  have hy' : szRow szFnD y.Fns + szRow (szPatD d) y.Pats ≤ 1048576 := hy
  obtain ⟨a3, c3, rfl, hel⟩ := h1
  obtain ⟨a4, c4, rfl, hcl⟩ := h2
  obtain ⟨b3, d3, rfl, gel⟩ := g1
  obtain ⟨b4, d4, rfl, gcl⟩ := g2
  have HE : Hid (∀ (i : Nat) (e : DFn), x.Fns[i]? = some e → ∃ b o vs, a3 = some ⟨b, o, none⟩ ∧ vs.length = 4 ∧ (∀ (j : Nat) (u : Value), vs[j]? = some u → w.cell? ⟨b, o + i * 4 + j, none⟩ = some u) ∧ FnR w vs e) := hel
  have HCL : Hid (∀ (i : Nat) (e : Tm d), x.Pats[i]? = some e → ∃ b o vs, a4 = some ⟨b, o, none⟩ ∧ vs.length = 4 ∧ (∀ (j : Nat) (u : Value), vs[j]? = some u → w.cell? ⟨b, o + i * 4 + j, none⟩ = some u) ∧ PatR d w vs e) := hcl
  have GE : Hid (∀ (i : Nat) (e : DFn), y.Fns[i]? = some e → ∃ b o vs, b3 = some ⟨b, o, none⟩ ∧ vs.length = 4 ∧ (∀ (j : Nat) (u : Value), vs[j]? = some u → w.cell? ⟨b, o + i * 4 + j, none⟩ = some u) ∧ FnR w vs e) := gel
  have GCL : Hid (∀ (i : Nat) (e : Tm d), y.Pats[i]? = some e → ∃ b o vs, b4 = some ⟨b, o, none⟩ ∧ vs.length = 4 ∧ (∀ (j : Nat) (u : Value), vs[j]? = some u → w.cell? ⟨b, o + i * 4 + j, none⟩ = some u) ∧ PatR d w vs e) := gcl
  have e1 : x.Fns.length ≤ szRow szFnD x.Fns := Nat.le_add_right _ _
  have e2 : x.Pats.length ≤ szRow (szPatD d) x.Pats := Nat.le_add_right _ _
  have e3 : y.Fns.length ≤ szRow szFnD y.Fns := Nat.le_add_right _ _
  have e4 : y.Pats.length ≤ szRow (szPatD d) y.Pats := Nat.le_add_right _ _
  by_cases h : x.Fns.length = y.Fns.length ∧ x.Pats.length = y.Pats.length
  case neg =>
    refine (specSameCode_no a3 _ c3 a4 _ c4 b3 _ d3 b4 _ d4 w (by omega) (by omega) (by omega) (by omega) h).mono ?_
    rintro e w' ⟨rfl, hb⟩
    have : ¬ x = y := fun e => h (by subst e; exact ⟨rfl, rfl⟩)
    exact bres_no this hb
  obtain ⟨k3, k4⟩ := h
  have HYES : Hid (x.Fns = y.Fns → x.Pats = y.Pats → pSameCode x y) := fun h3 h4 => DCode.ext' h3 h4
  have HNE : Hid (¬ x.Fns = y.Fns → ¬ pSameCode x y) := fun h e => h (by rw [show x = y from e])
  have HNC : Hid (¬ x.Pats = y.Pats → ¬ pSameCode x y) := fun h e => h (by rw [show x = y from e])
  rw [← k3, ← k4]
  have HZE : Hid (szRow szFnD x.Fns ≤ 1048576 ∧ szRow szFnD y.Fns ≤ 1048576) := ⟨by omega, by omega⟩
  have HZC : Hid (szRow (szPatD d) x.Pats ≤ 1048576 ∧ szRow (szPatD d) y.Pats ≤ 1048576) := ⟨by omega, by omega⟩
  obtain ⟨PQ, hPQ⟩ : ∃ P : Prop, pSameCode x y = P := ⟨_, rfl⟩
  rw [hPQ] at HYES HNE HNC ⊢
  obtain ⟨ES, hES⟩ : ∃ l, x.Fns = l := ⟨_, rfl⟩
  obtain ⟨CS, hCS⟩ : ∃ l, x.Pats = l := ⟨_, rfl⟩
  obtain ⟨FS, hFS⟩ : ∃ l, y.Fns = l := ⟨_, rfl⟩
  obtain ⟨DS, hDS⟩ : ∃ l, y.Pats = l := ⟨_, rfl⟩
  rw [hES, hFS] at HYES HNE HZE k3
  rw [hCS, hDS] at HYES HNC HZC k4
  rw [hES] at HE e1 hz'
  rw [hFS] at GE e3 hy'
  rw [hCS] at HCL e2 hz'
  rw [hDS] at GCL e4 hy'
  rw [hES, hCS]
  have hl3 : ES.length ≤ 1048576 := by omega
  have hl4 : CS.length ≤ 1048576 := by omega
  clear hES hCS hFS hDS hz hz' hy hy' hel hcl gel gcl e1 e2 e3 e4 hPQ hw hw2
  obtain ⟨l3, hl⟩ : ∃ l, ES.length = l := ⟨_, rfl⟩
  obtain ⟨l4, hl'⟩ : ∃ l, CS.length = l := ⟨_, rfl⟩
  have HL : Hid (ES.length = l3 ∧ FS.length = l3) := ⟨hl, by omega⟩
  have HL4 : Hid (CS.length = l4 ∧ DS.length = l4) := ⟨hl', by omega⟩
  rw [hl] at hl3 ⊢
  rw [hl'] at hl4 ⊢
  clear hl hl' k3 k4
  obtain ⟨W, hW⟩ : ∃ W, W = (w.alloc (.cells #[.slice a3 l3 c3, .slice a4 l4 c4] 38)).alloc (.cells #[.slice b3 l3 d3, .slice b4 l4 d4] 38) := ⟨_, rfl⟩
  have hA : Below w.heap.size w W := by rw [hW]; exact ((Below.refl _ _).alloc (Nat.le_refl _) _).alloc (by simp) _
  have HB1 : Hid (W.heap[w.heap.size]? = some (.cells #[.slice a3 l3 c3, .slice a4 l4 c4] 38 (0, 0))) := by rw [hW]; show _ = _; rw [Below.heap_alloc _ _ _ (by simp)]; exact heap_alloc_new w _
  have HB2 : Hid (W.heap[w.heap.size + 1]? = some (.cells #[.slice b3 l3 d3, .slice b4 l4 d4] 38 (0, 0))) := by rw [hW]; show _ = _; have := heap_alloc_new (w.alloc (.cells #[.slice a3 l3 c3, .slice a4 l4 c4] 38)) (.cells #[.slice b3 l3 d3, .slice b4 l4 d4] 38); simpa using this
  have HBW : Hid (Below w.heap.size w W) := hA
  have HWS : Hid (W = _) := hW
  have hn3 : ((l3 : Int) != (l3 : Int)) = false := by simp
  have hn4 : ((l4 : Int) != (l4 : Int)) = false := by simp
  clear hW hA
  go_enter Try.func11, Try.ntmps11
  go_wp2_with fail
  rw [← HWS.out]
  clear HWS
  go_loopw [5] (fun i wr => ∃ (j : Nat), j ≤ l3 ∧ i = .int .i64 j ∧ Hid (Below W.heap.size W wr) ∧ Hid (ES.take j = FS.take j)) (fun i _ => l3 - (intOf i).toNat)
  case atStart => exact ⟨0, Nat.zero_le _, rfl, Below.refl _ _, rfl⟩
  case round =>
    obtain ⟨j, hj, rfl, hb, HS⟩ := hrel
    have hbw : Below w.heap.size w wr := HBW.out.trans (hb.out.mono HBW.out.size)
    have hrow := (hb.out.block _ (lt_row HB1.out)).trans HB1.out
    have hrow2 := (hb.out.block _ (lt_row HB2.out)).trans HB2.out
    have z3 : wr.cell? ⟨w.heap.size, 0, none⟩ = some (.slice a3 l3 c3) := by rw [cell_of_row wr _ 0 _ _ _ hrow]; rfl
    have y3 : wr.cell? ⟨w.heap.size + 1, 0, none⟩ = some (.slice b3 l3 d3) := by rw [cell_of_row wr _ 0 _ _ _ hrow2]; rfl
    clear hrow hrow2
    by_cases hjl : j < l3
    · obtain ⟨t, ht⟩ : ∃ t, ES[j]? = some t := ⟨_, List.getElem?_eq_getElem (by rw [HL.out.1]; exact hjl)⟩
      obtain ⟨u, hu⟩ : ∃ t, FS[j]? = some t := ⟨_, List.getElem?_eq_getElem (by rw [HL.out.2]; exact hjl)⟩
      obtain ⟨b, o, vs, rfl, hvl, hcell, hre⟩ := HE.out j t ht
      obtain ⟨b', o', vs', rfl, hvl', hcell', hre'⟩ := GE.out j u hu
      obtain ⟨y0, y1, y2, ya3, yl3, yc3, rfl⟩ := FnR.shape _ _ _ hre
      obtain ⟨v0, v1, v2, va3, vl3, vc3, rfl⟩ := FnR.shape _ _ _ hre'
      have f0 : wr.cell? ⟨b, o + j * 4, none⟩ = some _ := cell_later hbw (hcell 0 _ rfl)
      have f1 : wr.cell? ⟨b, o + j * 4 + 1, none⟩ = some _ := cell_later hbw (hcell 1 _ rfl)
      have f2 : wr.cell? ⟨b, o + j * 4 + 2, none⟩ = some _ := cell_later hbw (hcell 2 _ rfl)
      have f3 : wr.cell? ⟨b, o + j * 4 + 3, none⟩ = some _ := cell_later hbw (hcell 3 _ rfl)
      have g0 : wr.cell? ⟨b', o' + j * 4, none⟩ = some _ := cell_later hbw (hcell' 0 _ rfl)
      have g1 : wr.cell? ⟨b', o' + j * 4 + 1, none⟩ = some _ := cell_later hbw (hcell' 1 _ rfl)
      have g2 : wr.cell? ⟨b', o' + j * 4 + 2, none⟩ = some _ := cell_later hbw (hcell' 2 _ rfl)
      have g3 : wr.cell? ⟨b', o' + j * 4 + 3, none⟩ = some _ := cell_later hbw (hcell' 3 _ rfl)
      have HC : Hid (∀ V : World, Below wr.heap.size wr V → _) := fun V hV => specSameFn_any _ _ t u V (FnR.lasts _ _ _ _ (FnR.lasts _ _ _ _ hre hbw) hV) (FnR.lasts _ _ _ _ (FnR.lasts _ _ _ _ hre' hbw) hV) (Nat.le_trans (szRow_mem ht) HZE.out.1) (Nat.le_trans (szRow_mem hu) HZE.out.2)
      have hjl' : (j : Int) < (l3 : Int) := by omega
      have hn0 := After.some wr
      have rz := After.cell z3
      have ry := After.cell y3
      have p0 := After.cell f0
      have p1 := After.cell f1
      have p2 := After.cell f2
      have p3 := After.cell f3
      have q0 := After.cell g0
      have q1 := After.cell g1
      have q2 := After.cell g2
      have q3 := After.cell g3
      clear hcell hcell' hre hre' hvl hvl' hbw
      by_cases htu : t = u
      · have HS2 : Hid (ES.take (j + 1) = FS.take (j + 1)) := take_sameW ht hu HS.out htu
        rw [eqw_yes htu] at HC
        clear ht hu htu HS
        go_wp2_with fail
        refine wp_region_after (by kernel_rfl) (by kernel_rfl) ?_
        repeat (go_big_quiet_step ((go_at_call 22; exact calls_after (HC.out _ (After.bel _)))))
        refine wpQuiet_nil ?_
        rintro _ ⟨nq, rfl⟩
        have hb2 : Hid (Below W.heap.size W nq.now) := hb.out.trans (nq.bel.mono hb.out.size)
        clear hb f0 f1 f2 f3 g0 g1 g2 g3 p0 p1 p2 p3 q0 q1 q2 q3 z3 y3 rz ry
        go_wp2_with fail
        go_roundw
        case rel => exact ⟨j + 1, by omega, by go_num, hb2, HS2⟩
        case measure => simp [intOf]; omega
      · have HB : Hid (¬ PQ) := HNE.out (unlike_atW ht hu htu)
        rw [eqw_no htu] at HC
        clear ht hu htu HS
        go_wp2_with fail
        refine wp_region_after (by kernel_rfl) (by kernel_rfl) ?_
        repeat (go_big_quiet_step ((go_at_call 22; exact calls_after (HC.out _ (After.bel _)))))
        refine wpQuiet_nil ?_
        rintro _ ⟨nq, rfl⟩
        have hb2 : Hid (Below w.heap.size w nq.now) := HBW.out.trans ((hb.out.trans (nq.bel.mono hb.out.size)).mono HBW.out.size)
        clear hb f0 f1 f2 f3 g0 g1 g2 g3 p0 p1 p2 p3 q0 q1 q2 q3 z3 y3 rz ry
        go_wp2_with fail
        go_ret
        exact bres_no HB.out hb2.out
    · obtain rfl : j = l3 := by omega
      have HS2 : Hid (ES = FS) := take_allW HL.out.1 HL.out.2 HS.out
      clear hbw HS HE GE HNE HZE HL
      go_wp2_with fail
      clear z3 y3 hj hjl
      go_loopw [6] (fun i wr => ∃ (j : Nat), j ≤ l4 ∧ i = .int .i64 j ∧ Hid (Below W.heap.size W wr) ∧ Hid (CS.take j = DS.take j)) (fun i _ => l4 - (intOf i).toNat)
      case atStart => exact ⟨0, Nat.zero_le _, rfl, hb, rfl⟩
      case round =>
        clear hb
        obtain ⟨j, hj, rfl, hb, HS⟩ := hrel
        rename World => wr
        have hbw : Below w.heap.size w wr := HBW.out.trans (hb.out.mono HBW.out.size)
        have hrow := (hb.out.block _ (lt_row HB1.out)).trans HB1.out
        have hrow2 := (hb.out.block _ (lt_row HB2.out)).trans HB2.out
        have z3 : wr.cell? ⟨w.heap.size, 1, none⟩ = some (.slice a4 l4 c4) := by rw [cell_of_row wr _ 1 _ _ _ hrow]; rfl
        have y3 : wr.cell? ⟨w.heap.size + 1, 1, none⟩ = some (.slice b4 l4 d4) := by rw [cell_of_row wr _ 1 _ _ _ hrow2]; rfl
        clear hrow hrow2
        by_cases hjl : j < l4
        · obtain ⟨t, ht⟩ : ∃ t, CS[j]? = some t := ⟨_, List.getElem?_eq_getElem (by rw [HL4.out.1]; exact hjl)⟩
          obtain ⟨u, hu⟩ : ∃ t, DS[j]? = some t := ⟨_, List.getElem?_eq_getElem (by rw [HL4.out.2]; exact hjl)⟩
          obtain ⟨b, o, vs, rfl, hvl, hcell, hre⟩ := HCL.out j t ht
          obtain ⟨b', o', vs', rfl, hvl', hcell', hre'⟩ := GCL.out j u hu
          obtain ⟨y0, y1, y2, ya3, yl3, yc3, rfl⟩ := PatR.shape _ _ _ _ hre
          obtain ⟨v0, v1, v2, va3, vl3, vc3, rfl⟩ := PatR.shape _ _ _ _ hre'
          have f0 : wr.cell? ⟨b, o + j * 4, none⟩ = some _ := cell_later hbw (hcell 0 _ rfl)
          have f1 : wr.cell? ⟨b, o + j * 4 + 1, none⟩ = some _ := cell_later hbw (hcell 1 _ rfl)
          have f2 : wr.cell? ⟨b, o + j * 4 + 2, none⟩ = some _ := cell_later hbw (hcell 2 _ rfl)
          have f3 : wr.cell? ⟨b, o + j * 4 + 3, none⟩ = some _ := cell_later hbw (hcell 3 _ rfl)
          have g0 : wr.cell? ⟨b', o' + j * 4, none⟩ = some _ := cell_later hbw (hcell' 0 _ rfl)
          have g1 : wr.cell? ⟨b', o' + j * 4 + 1, none⟩ = some _ := cell_later hbw (hcell' 1 _ rfl)
          have g2 : wr.cell? ⟨b', o' + j * 4 + 2, none⟩ = some _ := cell_later hbw (hcell' 2 _ rfl)
          have g3 : wr.cell? ⟨b', o' + j * 4 + 3, none⟩ = some _ := cell_later hbw (hcell' 3 _ rfl)
          have HC : Hid (∀ V : World, Below wr.heap.size wr V → _) := fun V hV => specSamePat_any d _ _ t u V (PatR.lasts d _ _ _ _ (PatR.lasts d _ _ _ _ hre hbw) hV) (PatR.lasts d _ _ _ _ (PatR.lasts d _ _ _ _ hre' hbw) hV) (Nat.le_trans (szRow_mem ht) HZC.out.1) (Nat.le_trans (szRow_mem hu) HZC.out.2)
          have hjl' : (j : Int) < (l4 : Int) := by omega
          have hn0 := After.some wr
          have rz := After.cell z3
          have ry := After.cell y3
          have p0 := After.cell f0
          have p1 := After.cell f1
          have p2 := After.cell f2
          have p3 := After.cell f3
          have q0 := After.cell g0
          have q1 := After.cell g1
          have q2 := After.cell g2
          have q3 := After.cell g3
          clear hcell hcell' hre hre' hvl hvl' hbw
          by_cases htu : t = u
          · have HSN : Hid (CS.take (j + 1) = DS.take (j + 1)) := take_sameW ht hu HS.out htu
            rw [eqw_yes htu] at HC
            clear ht hu htu HS
            go_wp2_with fail
            refine wp_region_after (by kernel_rfl) (by kernel_rfl) ?_
            repeat (go_big_quiet_step ((go_at_call 23; exact calls_after (HC.out _ (After.bel _)))))
            refine wpQuiet_nil ?_
            rintro _ ⟨nq, rfl⟩
            have hb2 : Hid (Below W.heap.size W nq.now) := hb.out.trans (nq.bel.mono hb.out.size)
            clear hb f0 f1 f2 f3 g0 g1 g2 g3 p0 p1 p2 p3 q0 q1 q2 q3 z3 y3 rz ry
            go_wp2_with fail
            go_roundw
            case rel => exact ⟨j + 1, by omega, by go_num, hb2, HSN⟩
            case measure => simp [intOf]; omega
          · have HB : Hid (¬ PQ) := HNC.out (unlike_atW ht hu htu)
            rw [eqw_no htu] at HC
            clear ht hu htu HS
            go_wp2_with fail
            refine wp_region_after (by kernel_rfl) (by kernel_rfl) ?_
            repeat (go_big_quiet_step ((go_at_call 23; exact calls_after (HC.out _ (After.bel _)))))
            refine wpQuiet_nil ?_
            rintro _ ⟨nq, rfl⟩
            have hb2 : Hid (Below w.heap.size w nq.now) := HBW.out.trans ((hb.out.trans (nq.bel.mono hb.out.size)).mono HBW.out.size)
            clear hb f0 f1 f2 f3 g0 g1 g2 g3 p0 p1 p2 p3 q0 q1 q2 q3 z3 y3 rz ry
            go_wp2_with fail
            go_ret
            exact bres_no HB.out hb2.out
        · obtain rfl : j = l4 := by omega
          have HB : Hid PQ := HYES.out HS2.out (take_allW HL4.out.1 HL4.out.2 HS.out)
          have hb2 : Hid (Below w.heap.size w wr) := hbw
          clear HS hbw
          go_wp2_with fail
          go_ret
          exact bres_yes HB.out hb2.out

end Go.Proofs.Ytahmbnokjfkfiaa
