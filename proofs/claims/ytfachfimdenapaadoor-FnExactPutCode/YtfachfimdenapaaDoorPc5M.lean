/- The bytes of a Fn: the program's. -/
import Derived.Test.YtfachfimdenapaaDoorPc0M
namespace Go.Proofs.YtfachfimdenapaaDoor
open Go.RowKit
set_option linter.unusedVariables false

set_option maxRecDepth 100000 in
set_option maxHeartbeats 8000000 in
theorem fnBytes_any (vs : List Value) (f : DFn) (w : World) (hr : FnR w vs f) (hw : WfFn f) (hz : szFnD f ≤ 1048576) :
    Calls Tryd.prog 24 #[.agg vs.toArray] w fun e w' => ∃ v', e = .returned v' ∧ Hid (OB w.heap.size w' v' (encFn f)) ∧ Kp w.heap.size w w' := by
  obtain ⟨v3, rfl, h3⟩ := hr
  obtain ⟨a4, c4, rfl, hel⟩ := h3
  obtain ⟨ws, wa, wt, wl⟩ := hw
  have hfz : f.Name.size + szRow szInsD f.Ins ≤ 1048576 := hz
  have hil : f.Ins.length ≤ szRow szInsD f.Ins := Nat.le_add_right _ _
  have hle := encFn_le f
  have hen : (encFn f).length = (encH f).length + (f.Ins.flatMap encI).length := by unfold encFn; rw [List.length_append]
  obtain ⟨B, hB⟩ : ∃ B, w.heap.size = B := ⟨_, rfl⟩
  obtain ⟨z2, hz2⟩ : ∃ z, put f.Name = z := ⟨_, rfl⟩
  obtain ⟨z3, hz3⟩ : ∃ z, z2 ++ encs [f.Args, f.Slots, (f.Ins.length : Int)] = z := ⟨_, rfl⟩
  have e3 : encs [f.Args, f.Slots, (f.Ins.length : Int)] = enc (code f.Args) ++ (enc (code f.Slots) ++ enc (code f.Ins.length)) := by simp [encs]
  have HZ3 : Hid (encH f = z3) := by show _ = _; rw [← hz3, ← hz2, e3]; unfold encH; simp only [List.append_assoc]
  have hz3l : z3.length = (encH f).length := by rw [HZ3.out]
  have l2 : z2.length ≤ 6 + f.Name.size := by rw [← hz2]; exact put_le _
  have H1 : Hid (∀ (V : World) (c0 : Nat), OB B V (.slice none 0 0) [] → B ≤ V.heap.size → V.heap[c0]? = some (.cells #[.string f.Name] 9 (0, 0)) → Calls Tryd.prog 41 #[.slice none 0 0, .slice (some ⟨c0, 0, none⟩) 1 1] V fun e w' => ∃ v', e = .returned v' ∧ Hid (OB B w' v' ([] ++ put f.Name)) ∧ Kp B V w') := fun V c0 h1 h2 h3 => text_any (.slice none 0 0) [] B c0 1 f.Name V h1 h2 h3 (by simp) (by omega)
  have H2 : Hid (∀ (V : World) (c0 : Nat) (v1 : Value), OB B V v1 z2 → B ≤ V.heap.size → V.heap[c0]? = some (.cells #[.int .i64 f.Args, .int .i64 f.Slots, .int .i64 (f.Ins.length : Int)] 3 (0, 0)) → Calls Tryd.prog 23 #[v1, .slice (some ⟨c0, 0, none⟩) 3 3] V fun e w' => ∃ v', e = .returned v' ∧ Hid (OB B w' v' (z2 ++ encs [f.Args, f.Slots, (f.Ins.length : Int)])) ∧ Kp B V w') := fun V c0 v1 h1 h2 h3 => nums_any v1 z2 B c0 3 [f.Args, f.Slots, (f.Ins.length : Int)] V h1 h2 h3 (by omega) (fun N hN => by simp at hN; rcases hN with rfl | rfl | rfl; exact wa; exact wt; exact ⟨by omega, by omega⟩) (by simp)
  rw [List.nil_append, hz2] at H1
  rw [hz3] at H2
  have HLI : Hid (z3.length + (f.Ins.flatMap encI).length ≤ 1073741824) := by show _ ≤ _; omega
  have HIN : Hid (∀ (i : Nat) (e : DIns), f.Ins[i]? = some e → ∃ b o vs, a4 = some ⟨b, o, none⟩ ∧ vs.length = 4 ∧ (∀ (j : Nat) (u : Value), vs[j]? = some u → w.cell? ⟨b, o + i * 4 + j, none⟩ = some u) ∧ InsR w vs e) := hel
  have HWI : Hid ((∀ x ∈ f.Ins, WfIns x) ∧ szRow szInsD f.Ins ≤ 1048576) := ⟨wl.2, by omega⟩
  have HFN : Hid (encFn f = z3 ++ f.Ins.flatMap encI) := by show _ = _; rw [← HZ3.out]; rfl
  have hll : f.Ins.length ≤ 1048576 := by omega
  rw [HFN.out, hB]
  obtain ⟨NM, hNM⟩ : ∃ l, f.Name = l := ⟨_, rfl⟩
  obtain ⟨AR, hAR⟩ : ∃ l, f.Args = l := ⟨_, rfl⟩
  obtain ⟨SL, hSL⟩ : ∃ l, f.Slots = l := ⟨_, rfl⟩
  obtain ⟨IS, hIS⟩ : ∃ l, f.Ins = l := ⟨_, rfl⟩
  rw [hNM] at H1 ⊢
  rw [hAR, hSL, hIS] at H2
  rw [hAR, hSL, hIS]
  rw [hIS] at HLI HIN HWI hll
  clear hz hfz hil hle hen hz2 hz3 e3 HZ3 hz3l l2 HFN hNM hAR hSL hIS ws wa wt wl hel
  obtain ⟨li, hli⟩ : ∃ l, IS.length = l := ⟨_, rfl⟩
  have HL : Hid (IS.length = li) := hli
  rw [hli] at hll H2 ⊢
  clear hli
  have HBB : Hid (w.heap.size = B) := hB
  obtain ⟨W, hW⟩ : ∃ W, W = w.alloc (.cells #[.string NM, .int .i64 AR, .int .i64 SL, .slice a4 li c4] 45) := ⟨_, rfl⟩
  have HKW : Hid (Kp B w W) := by rw [hW]; exact (Kp.refl B w).alloc (by omega) _
  have HB1 : Hid (W.heap[B]? = some (.cells #[.string NM, .int .i64 AR, .int .i64 SL, .slice a4 li c4] 45 (0, 0))) := by rw [hW, ← hB]; exact heap_alloc_new w _
  have HBZ : Hid (B ≤ W.heap.size) := Nat.le_trans (by omega) HKW.out.bel.size
  have HWS : Hid (W = _) := hW
  have HSK : Hid (∀ V : World, Kp B W V → V.cell? ⟨B, 0, none⟩ = some (.string NM) ∧ V.cell? ⟨B, 1, none⟩ = some (.int .i64 AR) ∧ V.cell? ⟨B, 2, none⟩ = some (.int .i64 SL) ∧ V.cell? ⟨B, 3, none⟩ = some (.slice a4 li c4)) := fun V hV => by
    have hr := hV.far _ _ HB1.out (n5_of (by decide))
    exact ⟨by rw [cell_of_row V _ 0 _ _ _ hr]; rfl, by rw [cell_of_row V _ 1 _ _ _ hr]; rfl, by rw [cell_of_row V _ 2 _ _ _ hr]; rfl, by rw [cell_of_row V _ 3 _ _ _ hr]; rfl⟩
  have HO0 : Hid (OB B W (.slice none 0 0) []) := ⟨rfl, .inl ⟨rfl, rfl⟩⟩
  have HZB : Hid (∀ V : World, Kp B W V → B ≤ V.heap.size) := fun V hV => Nat.le_trans HBZ.out hV.bel.size
  have hY : Kp B W W := Kp.refl B W
  obtain ⟨x0, x1, x2, x3⟩ := HSK.out W (Kp.refl B W)
  clear hW hB
  go_enter Tryd.func24, Tryd.ntmps24
  go_wp2_with fail
  rw [← HWS.out, HBB.out]
  clear HWS
  go_cut [3] (fun v4 wx => Hid (OB B wx v4 z3) ∧ Hid (Kp B W wx))
  case first =>
    go_region_held3 (fun V => V.cell? ⟨B, 0, none⟩ = some (.string NM) ∧ V.cell? ⟨B, 1, none⟩ = some (.int .i64 AR) ∧ V.cell? ⟨B, 2, none⟩ = some (.int .i64 SL) ∧ V.cell? ⟨B, 3, none⟩ = some (.slice a4 li c4)) (exact HSK.out _ (by repeat (first | with_reducible exact hY | with_reducible exact Kp.refl _ _ | with_reducible refine kpa HBZ.out ?_ | with_reducible refine Kp.drew ?_))) (first
      | (go_at_call 41; (with_reducible refine (H1.out _ _ ?_ (HZB.out _ ?_) ?_).mono ?_); (next => (repeat (first | with_reducible exact HO0.out | with_reducible refine ob_alloc ?_ | with_reducible refine ob_drew ?_))); (next => (repeat (first | with_reducible exact hY | with_reducible refine kpa HBZ.out ?_ | with_reducible refine Kp.drew ?_))); (next => (repeat (first | with_reducible exact heap_alloc_new _ _ | (refine al_new ?_; solve | with_reducible rfl | (simp; done)) | with_reducible refine al1 ?_ | with_reducible refine hp_drew ?_))); rintro e V1 ⟨v1, rfl, HOa, hK1⟩; have hY : Kp B W V1 := (by refine Kp.trans ?_ hK1; repeat (first | with_reducible exact hY | with_reducible refine kpa HBZ.out ?_ | with_reducible refine Kp.drew ?_)))
      | (go_at_call 23; (with_reducible refine (H2.out _ _ _ ?_ (HZB.out _ ?_) ?_).mono ?_); (next => (repeat (first | with_reducible exact HOa.out | with_reducible refine ob_alloc ?_ | with_reducible refine ob_drew ?_))); (next => (repeat (first | with_reducible exact hY | with_reducible refine kpa HBZ.out ?_ | with_reducible refine Kp.drew ?_))); (next => (repeat (first | with_reducible exact heap_alloc_new _ _ | (refine al_new ?_; solve | with_reducible rfl | (simp; done)) | with_reducible refine al1 ?_ | with_reducible refine hp_drew ?_ | with_reducible refine hK1.far _ _ ?_ (n5_of (by decide))))); rintro e V2 ⟨v2, rfl, HOb, hK2⟩; have hY : Kp B W V2 := (by refine Kp.trans ?_ hK2; repeat (first | with_reducible exact hY | with_reducible refine kpa HBZ.out ?_ | with_reducible refine Kp.drew ?_)))
      )
    all_goals
      have HYF : Hid (Kp B W V2) := hY
      clear hY hK1 hK2
      go_wp2_with fail
      go_meet
      case rel => exact ⟨HOb, HYF⟩
  case rest =>
    obtain ⟨HV, HBV⟩ := hcut
    obtain ⟨V0, hV0⟩ : ∃ V, V = wc := ⟨_, rfl⟩
    rw [← hV0] at HV HBV ⊢
    obtain ⟨_, _, _, y3⟩ := HSK.out V0 HBV.out
    clear hV0 x0 x1 x2 x3 H1 H2 hY HO0
    go_wp2_with fail
    clear y3
    go_loopw [3, 22] (fun a i wr => ∃ j : Nat, j ≤ li ∧ i = .int .i64 j ∧ Hid (OB B wr a (z3 ++ (IS.take j).flatMap encI)) ∧ Hid (Kp B W wr)) (fun _ i _ => li - (intOf i).toNat)
    case atStart => exact ⟨0, Nat.zero_le _, rfl, by simpa using HV, HBV⟩
    case round =>
      obtain ⟨j, hj, rfl, HVj, HBj⟩ := hrel
      clear HV HBV
      by_cases hjl : j < li
      · obtain ⟨xi, hx⟩ : ∃ u, IS[j]? = some u := ⟨_, List.getElem?_eq_getElem (by have := HL.out; omega)⟩
        obtain ⟨b, o, vs, rfl, hvl, hcell, hre⟩ := HIN.out j xi hx
        have hre' : vs = [.int .i64 xi.Op, .int .i64 xi.N, .string xi.S, .int .i64 xi.To] := hre
        subst hre'
        have hbw : Below w.heap.size w wr := by rw [HBB.out]; exact (HKW.out.trans HBj.out).bel
        have f0 : wr.cell? ⟨b, o + j * 4, none⟩ = some _ := cell_later hbw (hcell 0 _ rfl)
        have f1 : wr.cell? ⟨b, o + j * 4 + 1, none⟩ = some _ := cell_later hbw (hcell 1 _ rfl)
        have f2 : wr.cell? ⟨b, o + j * 4 + 2, none⟩ = some _ := cell_later hbw (hcell 2 _ rfl)
        have f3 : wr.cell? ⟨b, o + j * 4 + 3, none⟩ = some _ := cell_later hbw (hcell 3 _ rfl)
        obtain ⟨wo, wn, ws, wt⟩ := HWI.out.1 xi (List.mem_of_getElem? hx)
        have hxs : szInsD xi ≤ 1048576 := Nat.le_trans (szRow_mem hx) HWI.out.2
        have hxs' : xi.S.size ≤ 1048576 := hxs
        have hp := flat_part encI IS (j + 1)
        have ht := flat_take (f := encI) hx
        have hlf := HLI.out
        rw [ht, List.length_append] at hp
        have hen : (encI xi).length = (((enc (code xi.Op)).length + (enc (code xi.N)).length) + (put xi.S).length) + (enc (code xi.To)).length := by unfold encI; simp only [List.length_append]
        obtain ⟨zk, hzk⟩ : ∃ z, z3 ++ (IS.take j).flatMap encI = z := ⟨_, rfl⟩
        have hzl : zk.length = z3.length + ((IS.take j).flatMap encI).length := by rw [← hzk, List.length_append]
        rw [hzk] at HVj
        obtain ⟨q1, hq1⟩ : ∃ z, zk ++ encs [xi.Op, xi.N] = z := ⟨_, rfl⟩
        obtain ⟨q2, hq2⟩ : ∃ z, q1 ++ put xi.S = z := ⟨_, rfl⟩
        obtain ⟨q3, hq3⟩ : ∃ z, q2 ++ encs [xi.To] = z := ⟨_, rfl⟩
        have e2 : encs [xi.Op, xi.N] = enc (code xi.Op) ++ enc (code xi.N) := by simp [encs]
        have e1 : encs [xi.To] = enc (code xi.To) := by simp [encs]
        have HNK : Hid (z3 ++ (IS.take (j + 1)).flatMap encI = q3) := by show _ = _; rw [ht, ← hq3, ← hq2, ← hq1, ← hzk, e1, e2]; unfold encI; simp only [List.append_assoc]
        have m1 : q1.length = zk.length + ((enc (code xi.Op)).length + (enc (code xi.N)).length) := by rw [← hq1, e2]; simp only [List.length_append]
        have m2 : q2.length = q1.length + (put xi.S).length := by rw [← hq2, List.length_append]
        have J1 : Hid (∀ (V : World) (c0 : Nat), OB B V u3 zk → B ≤ V.heap.size → V.heap[c0]? = some (.cells #[.int .i64 xi.Op, .int .i64 xi.N] 3 (0, 0)) → Calls Tryd.prog 23 #[u3, .slice (some ⟨c0, 0, none⟩) 2 2] V fun e w' => ∃ v', e = .returned v' ∧ Hid (OB B w' v' (zk ++ encs [xi.Op, xi.N])) ∧ Kp B V w') := fun V c0 h1 h2 h3 => nums_any u3 zk B c0 2 [xi.Op, xi.N] V h1 h2 h3 (by omega) (fun N hN => by simp at hN; rcases hN with rfl | rfl; exact wo; exact wn) (by simp)
        have J2 : Hid (∀ (V : World) (c0 : Nat) (v1 : Value), OB B V v1 q1 → B ≤ V.heap.size → V.heap[c0]? = some (.cells #[.string xi.S] 9 (0, 0)) → Calls Tryd.prog 41 #[v1, .slice (some ⟨c0, 0, none⟩) 1 1] V fun e w' => ∃ v', e = .returned v' ∧ Hid (OB B w' v' (q1 ++ put xi.S)) ∧ Kp B V w') := fun V c0 v1 h1 h2 h3 => text_any v1 q1 B c0 1 xi.S V h1 h2 h3 (by omega) (by omega)
        have J3 : Hid (∀ (V : World) (c0 : Nat) (v1 : Value), OB B V v1 q2 → B ≤ V.heap.size → V.heap[c0]? = some (.cells #[.int .i64 xi.To] 3 (0, 0)) → Calls Tryd.prog 23 #[v1, .slice (some ⟨c0, 0, none⟩) 1 1] V fun e w' => ∃ v', e = .returned v' ∧ Hid (OB B w' v' (q2 ++ encs [xi.To])) ∧ Kp B V w') := fun V c0 v1 h1 h2 h3 => nums_any v1 q2 B c0 1 [xi.To] V h1 h2 h3 (by omega) (fun N hN => by simp at hN; subst hN; exact wt) (by simp)
        rw [hq1] at J1
        rw [hq2] at J2
        rw [hq3] at J3
        obtain ⟨OP, hOP⟩ : ∃ l, xi.Op = l := ⟨_, rfl⟩
        obtain ⟨NN, hNN⟩ : ∃ l, xi.N = l := ⟨_, rfl⟩
        obtain ⟨SS, hSS⟩ : ∃ l, xi.S = l := ⟨_, rfl⟩
        obtain ⟨TT, hTT⟩ : ∃ l, xi.To = l := ⟨_, rfl⟩
        rw [hOP] at f0
        rw [hNN] at f1
        rw [hSS] at f2
        rw [hTT] at f3
        rw [hOP, hNN] at J1
        rw [hSS] at J2
        rw [hTT] at J3
        obtain ⟨X, hX⟩ : ∃ X, X = wr.alloc (.cells #[.int .i64 OP, .int .i64 NN, .string SS, .int .i64 TT] 48) := ⟨_, rfl⟩
        obtain ⟨bx, hbx⟩ : ∃ b, b = wr.heap.size := ⟨_, rfl⟩
        have HKX : Hid (Kp B W X) := by rw [hX]; exact kpa HBZ.out HBj.out
        have HBX : Hid (X.heap[bx]? = some (.cells #[.int .i64 OP, .int .i64 NN, .string SS, .int .i64 TT] 48 (0, 0))) := by rw [hX, hbx]; exact heap_alloc_new wr _
        have HO0 : Hid (OB B X u3 zk) := by rw [hX]; exact ob_alloc HVj.out
        have HBY : Hid (B ≤ X.heap.size) := HZB.out X HKX.out
        have HSK2 : Hid (∀ V : World, Kp B X V → V.cell? ⟨bx, 0, none⟩ = some (.int .i64 OP) ∧ V.cell? ⟨bx, 1, none⟩ = some (.int .i64 NN) ∧ V.cell? ⟨bx, 2, none⟩ = some (.string SS) ∧ V.cell? ⟨bx, 3, none⟩ = some (.int .i64 TT)) := fun V hV => by
          have hr := hV.far _ _ HBX.out (n5_of (by decide))
          exact ⟨by rw [cell_of_row V _ 0 _ _ _ hr]; rfl, by rw [cell_of_row V _ 1 _ _ _ hr]; rfl, by rw [cell_of_row V _ 2 _ _ _ hr]; rfl, by rw [cell_of_row V _ 3 _ _ _ hr]; rfl⟩
        have HWX : Hid (X = _) := hX
        have HBN : Hid (bx = wr.heap.size) := hbx
        have hjl' : (j : Int) < (li : Int) := by omega
        clear hx hvl hcell hre hbw wo wn ws wt hxs hxs' hp ht hlf hen hzk hzl hq1 hq2 hq3 e1 e2 m1 m2 hOP hNN hSS hTT hX hbx HVj
        go_wp2_with fail
        rw [← HWX.out, ← HBN.out]
        clear HWX f0 f1 f2 f3
        have HZB0 : Hid (∀ V : World, Kp B W V → B ≤ V.heap.size) := HZB
        have HBZ0 : Hid (B ≤ W.heap.size) := HBZ
        clear HZB HBZ
        have HBZ : Hid (B ≤ X.heap.size) := HBY
        have HZB : Hid (∀ V : World, Kp B X V → B ≤ V.heap.size) := fun V hV => Nat.le_trans HBZ.out hV.bel.size
        have hY : Kp B X X := Kp.refl B X
        obtain ⟨y0, y1, y2, y3⟩ := HSK2.out X (Kp.refl B X)
        go_region_held3 (fun V => V.cell? ⟨bx, 0, none⟩ = some (.int .i64 OP) ∧ V.cell? ⟨bx, 1, none⟩ = some (.int .i64 NN) ∧ V.cell? ⟨bx, 2, none⟩ = some (.string SS) ∧ V.cell? ⟨bx, 3, none⟩ = some (.int .i64 TT)) (exact HSK2.out _ (by repeat (first | with_reducible exact hY | with_reducible exact Kp.refl _ _ | with_reducible refine kpa HBZ.out ?_ | with_reducible refine Kp.drew ?_))) (first
          | (go_at_call 23; (with_reducible refine (J1.out _ _ ?_ (HZB.out _ ?_) ?_).mono ?_); (next => (repeat (first | with_reducible exact HO0.out | with_reducible refine ob_alloc ?_ | with_reducible refine ob_drew ?_))); (next => (repeat (first | with_reducible exact hY | with_reducible refine kpa HBZ.out ?_ | with_reducible refine Kp.drew ?_))); (next => (repeat (first | with_reducible exact heap_alloc_new _ _ | (refine al_new ?_; solve | with_reducible rfl | (simp; done)) | with_reducible refine al1 ?_ | with_reducible refine hp_drew ?_))); rintro e V1 ⟨v1, rfl, HOa, hK1⟩; have hY : Kp B X V1 := (by refine Kp.trans ?_ hK1; repeat (first | with_reducible exact hY | with_reducible refine kpa HBZ.out ?_ | with_reducible refine Kp.drew ?_)))
          | (go_at_call 41; (with_reducible refine (J2.out _ _ _ ?_ (HZB.out _ ?_) ?_).mono ?_); (next => (repeat (first | with_reducible exact HOa.out | with_reducible refine ob_alloc ?_ | with_reducible refine ob_drew ?_))); (next => (repeat (first | with_reducible exact hY | with_reducible refine kpa HBZ.out ?_ | with_reducible refine Kp.drew ?_))); (next => (repeat (first | with_reducible exact heap_alloc_new _ _ | (refine al_new ?_; solve | with_reducible rfl | (simp; done)) | with_reducible refine al1 ?_ | with_reducible refine hp_drew ?_ | with_reducible refine hK1.far _ _ ?_ (n5_of (by decide))))); rintro e V2 ⟨v2, rfl, HOb, hK2⟩; have hY : Kp B X V2 := (by refine Kp.trans ?_ hK2; repeat (first | with_reducible exact hY | with_reducible refine kpa HBZ.out ?_ | with_reducible refine Kp.drew ?_)))
          | (go_at_call 23; (with_reducible refine (J3.out _ _ _ ?_ (HZB.out _ ?_) ?_).mono ?_); (next => (repeat (first | with_reducible exact HOb.out | with_reducible refine ob_alloc ?_ | with_reducible refine ob_drew ?_))); (next => (repeat (first | with_reducible exact hY | with_reducible refine kpa HBZ.out ?_ | with_reducible refine Kp.drew ?_))); (next => (repeat (first | with_reducible exact heap_alloc_new _ _ | (refine al_new ?_; solve | with_reducible rfl | (simp; done)) | with_reducible refine al1 ?_ | with_reducible refine hp_drew ?_ | with_reducible refine hK1.far _ _ ?_ (n5_of (by decide)) | with_reducible refine hK2.far _ _ ?_ (n5_of (by decide))))); rintro e V3 ⟨v3, rfl, HOc, hK3⟩; have hY : Kp B X V3 := (by refine Kp.trans ?_ hK3; repeat (first | with_reducible exact hY | with_reducible refine kpa HBZ.out ?_ | with_reducible refine Kp.drew ?_)))
          )
        all_goals
          have HYF : Hid (Kp B W V3) := HKX.out.trans hY
          have HVF : Hid (OB B V3 v3 (z3 ++ (IS.take (j + 1)).flatMap encI)) := by rw [HNK.out]; exact HOc.out
          clear hY hK1 hK2 hK3 y0 y1 y2 y3 HOa HOb HOc J1 J2 J3 HO0
          go_wp2_with fail
          go_roundw
          case rel => exact ⟨j + 1, by omega, by go_num, HVF, HYF⟩
          case measure => simp [intOf]; omega
      · obtain rfl : j = li := by omega
        have HF : Hid (OB B wr u3 (z3 ++ IS.flatMap encI)) := by
          have := HVj.out
          rw [List.take_of_length_le (by have := HL.out; omega)] at this
          exact this
        have HB2 : Hid (Kp B w wr) := HKW.out.trans HBj.out
        have hjl' : decide ((j : Int) < (j : Int)) = false := by simp
        clear HVj HBj
        go_wp2_with fail
        go_ret
        exact ⟨u3, rfl, HF, HB2.out⟩

end Go.Proofs.YtfachfimdenapaaDoor
