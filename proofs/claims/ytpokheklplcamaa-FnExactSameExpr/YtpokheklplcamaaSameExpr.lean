/- For every two expressions: SameExpr of the program answers as the model, and leaves the arguments as they were. (The frame round the walk is the guide's own way.) -/
import Derived.Test.YtpokheklplcamaaSa15M
import Derived.WalkKit
import Derived.ProofKit
import Derived.OpenShut
import Derived.ShutString
import Derived.ChangeOld
import Derived.Below
namespace Go.Proofs.Ytpokheklplcamaa.fnExactSameExpr
open Go.ChangeShapes Go.WideShapes Go.ChangeAt Go.RowKit
open Go.ChangeMaps (open_string shut_string)
set_option linter.unusedVariables false

theorem own : ownKnob Try.prog.godebug = none := by kernel_rfl
theorem laidOut : laidOutB Try.prog = true := by kernel_rfl

set_option maxHeartbeats 1000000 in
theorem walk (d : Nat) (w : World) (vs0 : List Value) (x0 : Ex d) (r0 : ExR d w vs0 x0) (f0 : WfX d x0) (vs1 : List Value) (x1 : Ex d) (r1 : ExR d w vs1 x1) (f1 : WfX d x1) :
    Calls Try.prog 6 #[.agg vs0.toArray, .agg vs1.toArray] w fun e w' => e = .returned (.bool true) ∧ Below w.heap.size w w' := by
  obtain ⟨k, n, s, a3, l3, c3, a4, l4, c4, rfl⟩ := ExR.shape d w vs0 x0 r0
  obtain ⟨k', n', s', a3', l3', c3', a4', l4', c4', rfl⟩ := ExR.shape d w vs1 x1 r1
  have HR0 : Hid (∀ V : World, Below w.heap.size w V → ExR d V [.int .i64 k, .int .i64 n, .string s, .slice a3 l3 c3, .slice a4 l4 c4] x0) := fun V hV => ExR.lasts d _ _ _ _ r0 hV
  have HR1 : Hid (∀ V : World, Below w.heap.size w V → ExR d V [.int .i64 k', .int .i64 n', .string s', .slice a3' l3' c3', .slice a4' l4' c4'] x1) := fun V hV => ExR.lasts d _ _ _ _ r1 hV
  have HF : Hid (WfX d x0 ∧ WfX d x1) := ⟨f0, f1⟩
  obtain ⟨W0, hW0⟩ : ∃ W, W = (w.alloc (.cells #[.int .i64 k, .int .i64 n, .string s, .slice a3 l3 c3, .slice a4 l4 c4] 38)).alloc (.cells #[.int .i64 k', .int .i64 n', .string s', .slice a3' l3' c3', .slice a4' l4' c4'] 38) := ⟨_, rfl⟩
  obtain ⟨hWs, bel0, boxa0, boxb0⟩ := two_new w W0 _ _ _ _ hW0
  have HBX : Hid (∀ V : World, Below W0.heap.size W0 V → V.heap[w.heap.size]? = some (.cells #[.int .i64 k, .int .i64 n, .string s, .slice a3 l3 c3, .slice a4 l4 c4] 38 (0, 0)) ∧ V.heap[w.heap.size + 1]? = some (.cells #[.int .i64 k', .int .i64 n', .string s', .slice a3' l3' c3', .slice a4' l4' c4'] 38 (0, 0)) ∧ Below w.heap.size w V) := fun V hV => ⟨(hV.block _ (by omega)).trans boxa0, (hV.block _ (by omega)).trans boxb0, bel0.trans (hV.mono bel0.size)⟩
  have hC := szExpr_any d _ x0 1048576 W0 (HR0.out W0 bel0) HF.out.1 (by omega) (by omega)
  rw [hW0] at hC
  have HW0 : Hid (W0 = _) := hW0
  obtain ⟨ba0, ba1, ba2, ba3, ba4⟩ := five_cells boxa0
  clear r0 r1 f0 f1 hW0 hWs bel0 boxa0 boxb0
  rw [HW0.out] at ba0 ba1 ba2 ba3 ba4
  go_enter Try.func6, Try.ntmps6
  go_wp2_with fail
  refine hC.mono ?_
  clear hC ba0 ba1 ba2 ba3 ba4
  rintro e wa ⟨rfl, bela⟩
  rw [← HW0.out] at bela
  have HBA : Hid (Below W0.heap.size W0 wa) := bela
  clear bela HW0
  by_cases hz : szX d x0 ≤ 1048576
  case neg =>
    have hl : lft 1048576 (szX d x0) = -1 := by unfold lft; rw [if_neg (by omega)]
    rw [hl]
    have hB := (HBX.out _ HBA.out).2.2
    clear hz hl
    go_wp2_with fail
    go_ret
    exact ⟨rfl, hB⟩
  have hl : ∃ x : Int, lft 1048576 (szX d x0) = x ∧ 0 ≤ x ∧ x ≤ 1048576 := ⟨_, rfl, by unfold lft; rw [if_pos (by omega)]; omega⟩
  obtain ⟨x, hx, hxp, hxq⟩ := hl
  rw [hx]
  have HZ0 : Hid (szX d x0 ≤ 1048576) := hz
  clear hz hx
  have hC := szExpr_any d _ x1 x wa (HR1.out wa (HBX.out _ HBA.out).2.2) HF.out.2 hxp hxq
  obtain ⟨bb0, bb1, bb2, bb3, bb4⟩ := five_cells (HBX.out _ HBA.out).2.1
  go_wp2_with fail
  refine hC.mono ?_
  clear hC bb0 bb1 bb2 bb3 bb4
  rintro e wb ⟨rfl, belb⟩
  have HBB : Hid (Below W0.heap.size W0 wb) := HBA.out.trans (belb.mono HBA.out.size)
  clear belb HBA
  by_cases hz : (szX d x1 : Int) ≤ x
  case neg =>
    have hl : lft x (szX d x1) = -1 := by unfold lft; rw [if_neg hz]
    rw [hl]
    have hB := (HBX.out _ HBB.out).2.2
    clear hz hl
    go_wp2_with fail
    go_ret
    exact ⟨rfl, hB⟩
  have hl : ∃ y : Int, lft x (szX d x1) = y ∧ 0 ≤ y := ⟨_, rfl, by unfold lft; rw [if_pos hz]; omega⟩
  obtain ⟨y, hy, hyp⟩ := hl
  rw [hy]
  have HZ1 : Hid (szX d x1 ≤ 1048576) := by show _ ≤ _; omega
  clear hz hy hxp hxq
  have HTO0 : Hid (∀ X : World, Below w.heap.size w X → _) := fun X hX => toExpr_any d _ x0 X (HR0.out X hX) HF.out.1 HZ0.out
  have HTO1 : Hid (∀ X : World, Below w.heap.size w X → _) := fun X hX => toExpr_any d _ x1 X (HR1.out X hX) HF.out.2 HZ1.out
  have HSH : Hid (∀ (X : World) (vs : List Value) (x : Ex d) (fp : List Nat), ExO d X vs x fp → ShExpr vs) := fun X vs x fp h => ExO.shape d X vs x fp h
  have HT0 : Hid (∀ X : World, Below w.heap.size w X → Calls Try.prog 20 #[.agg #[.int .i64 k, .int .i64 n, .string s, .slice a3 l3 c3, .slice a4 l4 c4]] X fun e V => ∃ i0 i1 i2 i3 il3 ic3 i4 il4 ic4, e = .returned (.agg #[.int .i64 i0, .int .i64 i1, .string i2, .slice i3 il3 ic3, .slice i4 il4 ic4]) ∧ Hid (∀ Y : World, Below V.heap.size V Y → ExR d Y [.int .i64 i0, .int .i64 i1, .string i2, .slice i3 il3 ic3, .slice i4 il4 ic4] x0) ∧ Below X.heap.size X V) := fun X hX => by
    refine (HTO0.out X hX).mono ?_
    rintro e V ⟨vs3, fp3, rfl, own3, _, hB⟩
    obtain ⟨i0, i1, i2, i3, il3, ic3, i4, il4, ic4, rfl⟩ := HSH.out _ _ _ _ own3
    exact ⟨i0, i1, i2, i3, il3, ic3, i4, il4, ic4, rfl, fun Y hY => ExR.lasts d _ _ _ _ (ExO.reads d _ _ _ _ own3) hY, hB⟩
  have HT1 : Hid (∀ X : World, Below w.heap.size w X → Calls Try.prog 20 #[.agg #[.int .i64 k', .int .i64 n', .string s', .slice a3' l3' c3', .slice a4' l4' c4']] X fun e V => ∃ j0 j1 j2 j3 jl3 jc3 j4 jl4 jc4, e = .returned (.agg #[.int .i64 j0, .int .i64 j1, .string j2, .slice j3 jl3 jc3, .slice j4 jl4 jc4]) ∧ Hid (∀ Y : World, Below V.heap.size V Y → ExR d Y [.int .i64 j0, .int .i64 j1, .string j2, .slice j3 jl3 jc3, .slice j4 jl4 jc4] x1) ∧ Below X.heap.size X V) := fun X hX => by
    refine (HTO1.out X hX).mono ?_
    rintro e V ⟨vs3, fp3, rfl, own3, _, hB⟩
    obtain ⟨j0, j1, j2, j3, jl3, jc3, j4, jl4, jc4, rfl⟩ := HSH.out _ _ _ _ own3
    exact ⟨j0, j1, j2, j3, jl3, jc3, j4, jl4, jc4, rfl, fun Y hY => ExR.lasts d _ _ _ _ (ExO.reads d _ _ _ _ own3) hY, hB⟩
  obtain ⟨g1, hg1⟩ : ∃ g, eqv x0 x1 = g := ⟨_, rfl⟩
  have HG1 : Hid (eqv x0 x1 = g1) := hg1
  have HSS : Hid (∀ (X : World) (i0 i1 : Int) (i2 : ByteArray) (i3 : Option Addr) (il3 ic3 : Nat) (i4 : Option Addr) (il4 ic4 : Nat) (j0 j1 : Int) (j2 : ByteArray) (j3 : Option Addr) (jl3 jc3 : Nat) (j4 : Option Addr) (jl4 jc4 : Nat), ExR d X [.int .i64 i0, .int .i64 i1, .string i2, .slice i3 il3 ic3, .slice i4 il4 ic4] x0 → ExR d X [.int .i64 j0, .int .i64 j1, .string j2, .slice j3 jl3 jc3, .slice j4 jl4 jc4] x1 → Calls Try.prog 26 #[.agg #[.int .i64 i0, .int .i64 i1, .string i2, .slice i3 il3 ic3, .slice i4 il4 ic4], .agg #[.int .i64 j0, .int .i64 j1, .string j2, .slice j3 jl3 jc3, .slice j4 jl4 jc4]] X fun e w' => e = .returned (.bool g1) ∧ Below X.heap.size X w') := fun X i0 i1 i2 i3 il3 ic3 i4 il4 ic4 j0 j1 j2 j3 jl3 jc3 j4 jl4 jc4 h1 h2 => by
    rw [← hg1]; exact specSameX_any d _ _ x0 x1 X h1 h2 HZ0.out HZ1.out
  clear hg1
  have hX : Below w.heap.size w wb.drew := (HBX.out _ HBB.out).2.2.drew
  have hY : Below W0.heap.size W0 wb.drew := HBB.out.drew
  obtain ⟨ba0, ba1, ba2, ba3, ba4⟩ := five_cells (HBX.out _ HBB.out).1
  obtain ⟨bb0, bb1, bb2, bb3, bb4⟩ := five_cells (HBX.out _ HBB.out).2.1
  go_wp2_with fail
  go_cut [6] (fun v wx => v = .bool g1 ∧ Hid (Below W0.heap.size W0 wx))
  case first =>
    go_region_with (first
      | (go_at_call 20; (with_reducible refine (HT0.out _ hX).mono ?_); rintro e V0 ⟨i0, i1, i2, i3, il3, ic3, i4, il4, ic4, rfl, HE0, hB0⟩; have hX := hX.trans (hB0.mono hX.size); have hY := hY.trans (hB0.mono hY.size); have q0 := Below.refl V0.heap.size V0; (try have q1 := q1.trans (hB0.mono q1.size)); (obtain ⟨bb0, bb1, bb2, bb3, bb4⟩ := five_cells (HBX.out _ hY).2.1))
      | (go_at_call 20; (with_reducible refine (HT1.out _ hX).mono ?_); rintro e V1 ⟨j0, j1, j2, j3, jl3, jc3, j4, jl4, jc4, rfl, HE1, hB1⟩; have hX := hX.trans (hB1.mono hX.size); have hY := hY.trans (hB1.mono hY.size); have q1 := Below.refl V1.heap.size V1; (try have q0 := q0.trans (hB1.mono q0.size)); (obtain ⟨ba0, ba1, ba2, ba3, ba4⟩ := five_cells (HBX.out _ hY).1))
      | (go_at_call 26; (with_reducible refine (HSS.out _ i0 i1 i2 i3 il3 ic3 i4 il4 ic4 j0 j1 j2 j3 jl3 jc3 j4 jl4 jc4 (HE0.out _ q0) (HE1.out _ q1)).mono ?_); rintro e V2 ⟨rfl, hB2⟩))
    all_goals
      go_wp2_with fail
      go_meet
      case rel => exact ⟨rfl, hY.trans (hB2.mono hY.size)⟩
  case rest =>
    obtain ⟨rfl, HBC⟩ := hcut
    clear ba0 ba1 ba2 ba3 ba4 bb0 bb1 bb2 bb3 bb4 hX hY HSS HT0 HT1
    have hC := HTO0.out wc (HBX.out _ HBC.out).2.2
    obtain ⟨ba0, ba1, ba2, ba3, ba4⟩ := five_cells (HBX.out _ HBC.out).1
    go_wp2_with fail
    refine hC.mono ?_
    clear hC ba0 ba1 ba2 ba3 ba4
    rintro e wd ⟨vs2, fp2, rfl, own2, fr2, beld⟩
    obtain ⟨p0, p1, p2, p3, pl3, pc3, p4, pl4, pc4, rfl⟩ := HSH.out _ _ _ _ own2
    obtain ⟨we, hwe⟩ : ∃ we, we = wd.alloc (.cells #[.int .i64 p0, .int .i64 p1, .string p2, .slice p3 pl3 pc3, .slice p4 pl4 pc4] 27) := ⟨_, rfl⟩
    have bele : Below wd.heap.size wd we := by rw [hwe]; exact (Below.refl _ _).alloc (Nat.le_refl _) _
    have hxe : we.heap[wd.heap.size]? = some (.cells #[.int .i64 p0, .int .i64 p1, .string p2, .slice p3 pl3 pc3, .slice p4 pl4 pc4] 27 (0, 0)) := by rw [hwe]; exact heap_alloc_new wd _
    have HBE : Hid (Below W0.heap.size W0 we) := HBC.out.trans ((beld.trans (bele.mono beld.size)).mono HBC.out.size)
    have hC := HTO1.out we (HBX.out _ HBE.out).2.2
    obtain ⟨bb0, bb1, bb2, bb3, bb4⟩ := five_cells (HBX.out _ HBE.out).2.1
    rw [hwe] at hC bb0 bb1 bb2 bb3 bb4
    have HWE : Hid (we = _) := hwe
    have HD : Hid (ExO d wd [.int .i64 p0, .int .i64 p1, .string p2, .slice p3 pl3 pc3, .slice p4 pl4 pc4] x0 fp2 ∧ Fresh wc.heap.size wd fp2 ∧ Below wd.heap.size wd we ∧ we.heap[wd.heap.size]? = some (.cells #[.int .i64 p0, .int .i64 p1, .string p2, .slice p3 pl3 pc3, .slice p4 pl4 pc4] 27 (0, 0))) := ⟨own2, fr2, bele, hxe⟩
    clear hwe own2 fr2 beld bele hxe
    go_wp2_with fail
    refine hC.mono ?_
    clear hC bb0 bb1 bb2 bb3 bb4
    rintro e wf ⟨vs4, fp4, rfl, own4, fr4, belf⟩
    obtain ⟨q0, q1, q2, q3, ql3, qc3, q4, ql4, qc4, rfl⟩ := HSH.out _ _ _ _ own4
    rw [← HWE.out] at fr4 belf
    obtain ⟨wg, hwg⟩ : ∃ wg, wg = wf.alloc (.cells #[.int .i64 q0, .int .i64 q1, .string q2, .slice q3 ql3 qc3, .slice q4 ql4 qc4] 27) := ⟨_, rfl⟩
    have belg : Below wf.heap.size wf wg := by rw [hwg]; exact (Below.refl _ _).alloc (Nat.le_refl _) _
    have hxg : wg.heap[wf.heap.size]? = some (.cells #[.int .i64 q0, .int .i64 q1, .string q2, .slice q3 ql3 qc3, .slice q4 ql4 qc4] 27 (0, 0)) := by rw [hwg]; exact heap_alloc_new wf _
    obtain ⟨own2, fr2, bele, hxe⟩ := HD.out
    have beleg : Below we.heap.size we wg := belf.trans (belg.mono belf.size)
    have beldg : Below wd.heap.size wd wg := bele.trans (beleg.mono bele.size)
    have HBG : Hid (Below W0.heap.size W0 wg) := HBE.out.trans (beleg.mono HBE.out.size)
    have HO0 : Hid (∀ V : World, Below wg.heap.size wg V → ExO d V [.int .i64 p0, .int .i64 p1, .string p2, .slice p3 pl3 pc3, .slice p4 pl4 pc4] x0 fp2) := fun V hV => ExO.lasts d _ _ _ _ _ own2 fun g hg => (hV.block g (Nat.lt_of_lt_of_le (fr2.2 g hg).2 beldg.size)).trans (beldg.block g (fr2.2 g hg).2)
    have HO1 : Hid (∀ V : World, Below wg.heap.size wg V → ExO d V [.int .i64 q0, .int .i64 q1, .string q2, .slice q3 ql3 qc3, .slice q4 ql4 qc4] x1 fp4) := fun V hV => ExO.lasts d _ _ _ _ _ own4 fun g hg => (hV.block g (Nat.lt_of_lt_of_le (fr4.2 g hg).2 belg.size)).trans (belg.block g (fr4.2 g hg).2)
    have Hp : Hid (∀ V : World, Below wg.heap.size wg V → V.heap[wd.heap.size]? = some (.cells #[.int .i64 p0, .int .i64 p1, .string p2, .slice p3 pl3 pc3, .slice p4 pl4 pc4] 27 (0, 0))) := fun V hV => (hV.block _ (Nat.lt_of_lt_of_le (lt_row hxe) beleg.size)).trans ((beleg.block _ (lt_row hxe)).trans hxe)
    have Hq : Hid (∀ V : World, Below wg.heap.size wg V → V.heap[wf.heap.size]? = some (.cells #[.int .i64 q0, .int .i64 q1, .string q2, .slice q3 ql3 qc3, .slice q4 ql4 qc4] 27 (0, 0))) := fun V hV => (hV.block _ (lt_row hxg)).trans hxg
    have hC := sameExpr_any d wg _ _ x0 x1 fp2 fp4 (HO0.out wg (Below.refl _ _)) (HO1.out wg (Below.refl _ _)) (fresh_apart fr2 fr4 bele.size) (fun g hg => by
      rcases List.mem_append.1 hg with h | h
      · exact Nat.lt_of_lt_of_le (fr2.2 g h).2 beldg.size
      · exact Nat.lt_of_lt_of_le (fr4.2 g h).2 belg.size) HZ0.out HZ1.out
    obtain ⟨d0, d1, d2, d3, d4⟩ := five_cells (Hp.out wg (Below.refl _ _))
    obtain ⟨e0, e1, e2, e3, e4⟩ := five_cells (Hq.out wg (Below.refl _ _))
    rw [hwg] at hC d0 d1 d2 d3 d4 e0 e1 e2 e3 e4
    have HWG : Hid (wg = _) := hwg
    clear hwg own2 own4 fr2 fr4 bele belf belg hxe hxg beleg beldg HD HBE HWE
    go_wp2_with fail
    refine hC.mono ?_
    clear hC d0 d1 d2 d3 d4 e0 e1 e2 e3 e4
    rintro e wh ⟨g2, rfl, HG2, belh⟩
    rw [← HWG.out] at belh
    have hgg : g1 = g2 := by
      have h1 := HG1.out
      by_cases he : x0 = x1
      · rw [eqv_yes he] at h1; rw [← h1]; exact (HG2.out.2 he).symm
      · rw [eqv_no he] at h1; rw [← h1]
        cases g2 with
        | false => rfl
        | true => exact absurd (HG2.out.1 rfl) he
    subst hgg
    have hbn : (g1 != g1) = false := by cases g1 <;> rfl
    obtain ⟨WL, hWL⟩ : ∃ WL, WL = wh := ⟨_, rfl⟩
    have HKL : Hid (Below wg.heap.size wg WL) := by rw [hWL]; exact belh
    have HBL : Hid (Below W0.heap.size W0 WL) := HBG.out.trans (HKL.out.mono HBG.out.size)
    rw [← hWL]
    clear belh hWL HG1 HG2 HWG HBC HBB
    obtain ⟨b0, b1, b2, b3, b4⟩ := five_cells (HBX.out _ HBL.out).1
    obtain ⟨d0, d1, d2, d3, d4⟩ := five_cells (Hp.out _ HKL.out)
    have HTG : Hid (∀ V : World, Below WL.heap.size WL V → Calls Try.prog 20 #[.agg #[.int .i64 k, .int .i64 n, .string s, .slice a3 l3 c3, .slice a4 l4 c4]] V fun e Y => ∃ i0 i1 i2 i3 il3 ic3 i4 il4 ic4, e = .returned (.agg #[.int .i64 i0, .int .i64 i1, .string i2, .slice i3 il3 ic3, .slice i4 il4 ic4]) ∧ Hid (ExR d Y [.int .i64 i0, .int .i64 i1, .string i2, .slice i3 il3 ic3, .slice i4 il4 ic4] x0) ∧ Below WL.heap.size WL Y) := fun V hV => by
      refine (HTO0.out V (HBX.out _ (HBL.out.trans (hV.mono HBL.out.size))).2.2).mono ?_
      rintro e Y ⟨vs3, fp3, rfl, own3, _, hB⟩
      obtain ⟨i0, i1, i2, i3, il3, ic3, i4, il4, ic4, rfl⟩ := HSH.out _ _ _ _ own3
      exact ⟨i0, i1, i2, i3, il3, ic3, i4, il4, ic4, rfl, ExO.reads d _ _ _ _ own3, hV.trans (hB.mono hV.size)⟩
    have HEX : Hid (∀ (V : World) (i0 i1 : Int) (i2 : ByteArray) (i3 : Option Addr) (il3 ic3 : Nat) (i4 : Option Addr) (il4 ic4 : Nat), Below WL.heap.size WL V → ExR d V [.int .i64 i0, .int .i64 i1, .string i2, .slice i3 il3 ic3, .slice i4 il4 ic4] x0 → _) := fun V i0 i1 i2 i3 il3 ic3 i4 il4 ic4 hV h => eqExpr_any d _ _ x0 V (ExO.reads d _ _ _ _ (HO0.out V (HKL.out.trans (hV.mono HKL.out.size)))) h HF.out.1
    have hlst : Below WL.heap.size WL WL.drew := (Below.refl _ _).drew
    go_wp2_with fail
    go_cut [39] (fun v wx => v = .bool false ∧ Hid (Below WL.heap.size WL wx))
    case first =>
      go_region_with (first | (go_at_call 20; refine (HTG.out _ hlst).mono ?_; rintro e V ⟨i0, i1, i2, i3, il3, ic3, i4, il4, ic4, rfl, HR3, hB⟩; have e0 := cell_later hB d0; have e1 := cell_later hB d1; have e2 := cell_later hB d2; have e3 := cell_later hB d3; have e4 := cell_later hB d4) | (go_at_call 22; refine (HEX.out V i0 i1 i2 i3 il3 ic3 i4 il4 ic4 hB HR3.out).mono ?_; rintro e V2 ⟨rfl, hB2⟩))
      all_goals
        go_wp2_with fail
        go_meet
        case rel => exact ⟨rfl, hB.trans (hB2.mono hB.size)⟩
    case rest =>
    obtain ⟨rfl, HCC⟩ := hcut
    obtain ⟨WM, hWM⟩ : ∃ WM, WM = wc := ⟨_, rfl⟩
    have HKM : Hid (Below wg.heap.size wg WM) := by rw [hWM]; exact HKL.out.trans (HCC.out.mono HKL.out.size)
    have HBM : Hid (Below W0.heap.size W0 WM) := by rw [hWM]; exact HBL.out.trans (HCC.out.mono HBL.out.size)
    rw [← hWM]
    clear HCC hWM b0 b1 b2 b3 b4 d0 d1 d2 d3 d4 HTG HEX hlst HKL HBL
    obtain ⟨b0, b1, b2, b3, b4⟩ := five_cells (HBX.out _ HBM.out).2.1
    obtain ⟨d0, d1, d2, d3, d4⟩ := five_cells (Hq.out _ HKM.out)
    have HTG : Hid (∀ V : World, Below WM.heap.size WM V → Calls Try.prog 20 #[.agg #[.int .i64 k', .int .i64 n', .string s', .slice a3' l3' c3', .slice a4' l4' c4']] V fun e Y => ∃ i0 i1 i2 i3 il3 ic3 i4 il4 ic4, e = .returned (.agg #[.int .i64 i0, .int .i64 i1, .string i2, .slice i3 il3 ic3, .slice i4 il4 ic4]) ∧ Hid (ExR d Y [.int .i64 i0, .int .i64 i1, .string i2, .slice i3 il3 ic3, .slice i4 il4 ic4] x1) ∧ Below WM.heap.size WM Y) := fun V hV => by
      refine (HTO1.out V (HBX.out _ (HBM.out.trans (hV.mono HBM.out.size))).2.2).mono ?_
      rintro e Y ⟨vs3, fp3, rfl, own3, _, hB⟩
      obtain ⟨i0, i1, i2, i3, il3, ic3, i4, il4, ic4, rfl⟩ := HSH.out _ _ _ _ own3
      exact ⟨i0, i1, i2, i3, il3, ic3, i4, il4, ic4, rfl, ExO.reads d _ _ _ _ own3, hV.trans (hB.mono hV.size)⟩
    have HEX : Hid (∀ (V : World) (i0 i1 : Int) (i2 : ByteArray) (i3 : Option Addr) (il3 ic3 : Nat) (i4 : Option Addr) (il4 ic4 : Nat), Below WM.heap.size WM V → ExR d V [.int .i64 i0, .int .i64 i1, .string i2, .slice i3 il3 ic3, .slice i4 il4 ic4] x1 → _) := fun V i0 i1 i2 i3 il3 ic3 i4 il4 ic4 hV h => eqExpr_any d _ _ x1 V (ExO.reads d _ _ _ _ (HO1.out V (HKM.out.trans (hV.mono HKM.out.size)))) h HF.out.2
    have hlst : Below WM.heap.size WM WM.drew := (Below.refl _ _).drew
    go_wp2_with fail
    go_cut [44] (fun v wx => v = .bool false ∧ Hid (Below WM.heap.size WM wx))
    case first =>
      go_region_with (first | (go_at_call 20; refine (HTG.out _ hlst).mono ?_; rintro e V ⟨i0, i1, i2, i3, il3, ic3, i4, il4, ic4, rfl, HR3, hB⟩; have e0 := cell_later hB d0; have e1 := cell_later hB d1; have e2 := cell_later hB d2; have e3 := cell_later hB d3; have e4 := cell_later hB d4) | (go_at_call 22; refine (HEX.out V i0 i1 i2 i3 il3 ic3 i4 il4 ic4 hB HR3.out).mono ?_; rintro e V2 ⟨rfl, hB2⟩))
      all_goals
        go_wp2_with fail
        go_meet
        case rel => exact ⟨rfl, hB.trans (hB2.mono hB.size)⟩
    case rest =>
    obtain ⟨rfl, HCC⟩ := hcut
    have hfin := (HBX.out _ (HBM.out.trans (HCC.out.mono HBM.out.size))).2.2
    go_wp2_with fail
    go_ret
    exact ⟨rfl, hfin⟩

set_option maxRecDepth 100000 in
theorem lifted (os : Os) (started : os.Started) (H : Type) (enc : TypeId × Value → H) :
    ReturnsInHanded {} Try.checked os 6 .any (Rows.fnExactSameExprSpec.pre6 enc Try.prog Try.f6 Rows.fnExactSameExprRow.domain false) (Rows.fnExactSameExprSpec.post enc Try.prog Try.f6 false true false false) := by
  refine returnsInHanded_of_change (C := Try.checked) own started (by kernel_rfl) Try.func6
    (ChangeSpec.witness6 (enc := enc) (C := Try.checked) false ⟨#[], #[.agg #[.int .i64 0, .int .i64 0, .string ⟨#[]⟩, .slice none 0 0, .slice none 0 0], .agg #[.int .i64 0, .int .i64 0, .string ⟨#[]⟩, .slice none 0 0, .slice none 0 0]], []⟩ 8 (by kernel_rfl) (by kernel_rfl) (by kernel_rfl) (by kernel_rfl)) ?_
  intro W base args ds gs before hval0 hW hcnd _
  have hval : ∀ (j : Nat) t v, Try.f6.params[j]? = some t → args[j]? = some v → Value.okWide Try.prog W .any base t v := hval0
  have hW' := hW
  obtain ⟨p, q, hA0, hV, rfl, hfz, hnd⟩ := hW
  have hA : DataW.TrodAll enc Try.prog W 0 (fun _ => true) true Try.f6.params.toList args.toList ds p := hA0
  rw [Try.params6] at hA hval
  obtain ⟨v0, vs0, d0, ds0, p0, q0, hargs, rfl, rfl, h0, rr0⟩ := trodAll_cons hA
  obtain ⟨v1, vs1, d1, ds1, p1, q1, rfl, rfl, rfl, h1, rr1⟩ := trodAll_cons rr0
  obtain ⟨rfl, rfl, rfl⟩ := trodAll_nil rr1
  obtain rfl : args = #[v0, v1] := by cases args; simp_all
  obtain ⟨rfl, rfl⟩ := trodVars_none hV
  have kk0 := h0
  have lt0 : ∀ x ∈ p0, x.block < W.heap.size := by obtain ⟨m, hm⟩ := kk0; exact DataW.trod_lt m _ _ _ hm
  obtain ⟨M0, R0⟩ := read_expr (hval 0 38 v0 rfl rfl) h0
  have kk1 := h1
  have lt1 : ∀ x ∈ p1, x.block < W.heap.size := by obtain ⟨m, hm⟩ := kk1; exact DataW.trod_lt m _ _ _ hm
  obtain ⟨M1, R1⟩ := read_expr (hval 1 38 v1 rfl rfl) h1
  obtain ⟨d, hd⟩ : ∃ d, d = max M0 M1 := ⟨_, rfl⟩
  obtain ⟨vs0, x0, rfl, r0, f0⟩ := R0 d (by omega)
  obtain ⟨vs1, x1, rfl, r1, f1⟩ := R1 d (by omega)
  clear hA0 hval0
  refine (walk d W vs0 x0 r0 f0 vs1 x1 r1 f1).mono fun e W' ⟨he, bel⟩ => ?_
  subst he
  exact ⟨_, rfl, _, _, _, [], _, [], hW', trodAll_mk1 (shut_bool Try.underlying4 _), (trodAll_cons_mk (Below.trod laidOut (by kernel_rfl) (of_decide_eq_true (by kernel_rfl)) kk0 bel lt0) (trodAll_cons_mk (Below.trod laidOut (by kernel_rfl) (of_decide_eq_true (by kernel_rfl)) kk1 bel lt1) trodAll_mk0)), rfl, bel.frame _, fun h => by cases h⟩

theorem over : Rows.fnExactSameExprRow.holds Try.pinned (OpenSpec.ofChange Rows.fnExactSameExprSpec) :=
  OpenClaim.holds_of_wide 6 Try.f6 rfl rfl rfl rfl rfl rfl rfl ⟨rfl, rfl, rfl, rfl, rfl⟩ rfl rfl rfl rfl rfl (by kernel_rfl) Try.func6 (by kernel_rfl)
    (of_decide_eq_true (by kernel_rfl)) (by unfold Func.isWrapper; first | (rw [if_pos (by decide +kernel)]; kernel_rfl) | (rw [if_neg (by decide +kernel)]; exact ⟨rfl, rfl⟩))
    (fun os started H enc _ => lifted os started H enc)

end Go.Proofs.Ytpokheklplcamaa.fnExactSameExpr
namespace Go.Proofs.Ytpokheklplcamaa
/-- THE STATEMENT. -/
theorem fnExactSameExpr_said : Rows.FnExactSameExprSaid := fnExactSameExpr.over
#print axioms fnExactSameExpr_said
end Go.Proofs.Ytpokheklplcamaa
