/- A drawn term has one more than all in it, and is one deeper than the deepest; one that is right is within its bounds. No condition. (The frame round the walk is the guide's own way.) -/
import Derived.Test.YtjdhkhpdhblhbaaBd2M
import Derived.Test.YtjdhkhpdhblhbaaCntIM
import Derived.Test.YtjdhkhpdhblhbaaIOkM
import Derived.Test.YtjdhkhpdhblhbaaPutM
import Derived.WalkKit
import Derived.Deep.DeepCutAuto
import Derived.ProofKit
import Derived.OpenShut
import Derived.ShutString
import Derived.ChangeOld
import Derived.Below
namespace Go.Proofs.Ytjdhkhpdhblhbaa.fnCounts
open Go.ChangeShapes Go.WideShapes Go.ChangeAt Go.RowKit
open Go.ChangeMaps (open_string shut_string)
set_option linter.unusedVariables false

theorem own : ownKnob Try.prog.godebug = none := by kernel_rfl
theorem laidOut : laidOutB Try.prog = true := by kernel_rfl

set_option maxRecDepth 100000 in
set_option maxHeartbeats 8000000 in
theorem walk (w : World) (a0 : Option Addr) (len0 cap0 : Nat) (z0 : List Int) (w0 : IsRow .u8 w a0 len0 cap0 z0) :
    Calls Try.prog 6 #[.slice a0 len0 cap0] w fun e w' => e = .returned (.bool true) ∧ Below w.heap.size w w' := by
  by_cases hbig : 1048576 < len0
  · go_enter Try.func6, Try.ntmps6
    go_wp2_with fail
    refine (big_yes a0 len0 cap0 w hbig).mono ?_
    rintro e w' ⟨rfl, rfl⟩
    go_wp2
    go_ret
    exact ⟨rfl, Below.refl _ _⟩
  · have hm : len0 ≤ 1048576 := by omega
    have hD := drawCountOf_any a0 len0 cap0 z0 w w0 hm
    clear w0
    go_enter Try.func6, Try.ntmps6
    go_wp2_with fail
    refine (big_no a0 len0 cap0 w hm).mono ?_
    rintro e w' ⟨rfl, rfl⟩
    go_wp2_with fail
    refine hD.mono ?_
    clear hD
    rintro e w1 ⟨k, n, s, av, lv, cv, rfl, HP⟩
    obtain ⟨⟨d, ts, fp, hown, _, hwf, hk, hn, hs, hcnt⟩, hb1⟩ := HP.out
    have hq := hown.rdq
    obtain ⟨xa0, xc0, ex0⟩ := hq.len
    simp only [Value.slice.injEq] at ex0
    have HLV : Hid (ts.length = lv) := ex0.2.1.symm
    obtain ⟨W2, hW2⟩ : ∃ W, W = w1.alloc (.cells #[.int .i64 k, .int .i64 n, .string s, .slice av lv cv] 29) := ⟨_, rfl⟩
    have hbA : Below w1.heap.size w1 W2 := by rw [hW2]; exact (Below.refl _ _).alloc (Nat.le_refl _) _
    have nT : W2.heap[w1.heap.size]? = some (.cells #[.int .i64 k, .int .i64 n, .string s, .slice av lv cv] 29 (0, 0)) := by rw [hW2]; exact heap_alloc_new w1 _
    have HQ : Hid (RdQ d W2 (.slice av lv cv) ts) := hq.later hbA
    have HRL : Hid (RdL d W2 (.slice av lv cv) ts) := hown.rd.later hbA
    have HWF : Hid (WfL d ts) := hwf
    have hb2 : Below w.heap.size w W2 := hb1.trans (hbA.mono hb1.size)
    have hlen : lv ≤ 200 := by have := len_cnt ts; have := HLV.out; omega
    have HCN : Hid (cntL d ts ≤ 200) := hcnt
    have HBW : Hid (Below w.heap.size w W2) := hb2
    have HNT : Hid (W2.heap[w1.heap.size]? = some (.cells #[.int .i64 k, .int .i64 n, .string s, .slice av lv cv] 29 (0, 0))) := nT
    have hzT := lt_of_row' nT
    have HSS : Hid (s.size ≤ 9223372036854775807) := by show _ ≤ _; omega
    obtain ⟨T, hT⟩ : ∃ T, w1.heap.size = T := ⟨_, rfl⟩
    rw [hT] at HNT hzT
    have HW2 : Hid (W2 = _) := hW2
    clear hown hq ex0 hwf hcnt hbA nT hb2 HP hW2 hk hn hs
    go_wp2_with fail
    rw [← HW2.out]
    go_loopw [4, 5, 6] (fun nn dd i wr => ∃ (j cn dn : Nat), j ≤ lv ∧ i = .int .i64 j ∧ nn = .int .i64 cn ∧ dd = .int .i64 dn ∧ Hid (cn = 1 + cntL d (ts.take j) ∧ dn = depL d (ts.take j)) ∧ Below W2.heap.size W2 wr) (fun _ _ i _ => lv - (intOf i).toNat)
    case atStart => exact ⟨0, 1, 0, Nat.zero_le _, rfl, rfl, rfl, ⟨by rw [List.take_zero, cntL_nil], by rw [List.take_zero, depL_nil]⟩, Below.refl _ _⟩
    case round =>
      obtain ⟨j, cn, dn, hj, rfl, rfl, rfl, HE, hb⟩ := hrel
      have nTr := (hb.block _ hzT).trans HNT.out
      obtain ⟨x0, x1, x2, x3, y0, y1, y2, y3⟩ := four_cells nTr
      have hcle : cntL d (ts.take j) ≤ cntL d ts ∧ depL d (ts.take j) ≤ cntL d (ts.take j) := by
        refine ⟨?_, depL_cntL _ _⟩
        cases d with
        | zero => exact Nat.le_refl _
        | succ d => exact cntP_le d ts j
      have hcn : cn ≤ 201 := by have := HE.out.1; have := HCN.out; omega
      have hdn : dn ≤ 200 := by have := HE.out.2; have := HCN.out; omega
      clear hcle
      by_cases hlt : j < lv
      · have hlt' : (j : Int) < (lv : Int) := by omega
        cases d with
        | zero => exact absurd HLV.out (by rw [tm0 ts]; simp; omega)
        | succ d =>
          obtain ⟨t, ht⟩ : ∃ t, ts[j]? = some t := ⟨_, List.getElem?_eq_getElem (by rw [HLV.out]; exact hlt)⟩
          obtain ⟨a', c', e', hel⟩ := HQ.out
          simp only [Value.slice.injEq] at e'
          obtain ⟨bb, oo, tv, g1, g2, g3, g4⟩ := hel j t ht
          obtain rfl : av = some ⟨bb, oo, none⟩ := e'.1.trans g1
          obtain ⟨xa, xc, ex⟩ := g4.len
          obtain ⟨xl, hxl⟩ : ∃ xl, t.L.length = xl := ⟨_, rfl⟩
          rw [hxl] at ex
          subst ex
          have F4 := g3.later hb
          obtain ⟨f0, f1, f2, f3⟩ := F4
          have hq4 := g4.later hb
          have htk : ts.take (j + 1) = ts.take j ++ [t] := by
            have hlt2 := (List.getElem?_eq_some_iff.1 ht).1
            have he := (List.getElem?_eq_some_iff.1 ht).2
            rw [List.take_succ_eq_append_getElem hlt2, he]
          have hcs := cntP_succ d ts j t ht
          have hds := depP_succ d ts j t ht
          have hcP : cntL (d + 1) (ts.take (j + 1)) = cntL (d + 1) (ts.take j) + (1 + cntL d t.L) := hcs
          have hdP : depL (d + 1) (ts.take (j + 1)) = max (depL (d + 1) (ts.take j)) (1 + depL d t.L) := hds
          have hle : 1 + cntL d t.L ≤ cntL (d + 1) ts := by
            have h1 := cntP_le d ts (j + 1)
            have h2 : cntP d ts (j + 1) = cntL (d + 1) (ts.take (j + 1)) := rfl
            omega
          have hdl := depL_cntL d t.L
          obtain ⟨q1, hq1⟩ : ∃ q, 1 + cntL d t.L = q := ⟨_, rfl⟩
          obtain ⟨q2, hq2⟩ : ∃ q, 1 + depL d t.L = q := ⟨_, rfl⟩
          have HC : Hid (∀ V : World, Below wr.heap.size wr V → Calls Try.prog 15 #[.agg #[.int .i64 t.K, .int .i64 t.N, .string t.S, .slice xa xl xc]] V fun e w' => e = .returned (.int .i64 (q1 : Nat)) ∧ Below V.heap.size V w') := fun V hV => by
            rw [← hq1]
            exact countOf_any d t.K t.N t.S _ t.L V (hq4.later hV) (by have := HCN.out; omega)
          have HDD : Hid (∀ V : World, Below wr.heap.size wr V → Calls Try.prog 17 #[.agg #[.int .i64 t.K, .int .i64 t.N, .string t.S, .slice xa xl xc]] V fun e w' => e = .returned (.int .i64 (q2 : Nat)) ∧ Below V.heap.size V w') := fun V hV => by
            rw [← hq2]
            exact depthOf_any d t.K t.N t.S _ t.L V (hq4.later hV) (by have := HCN.out; omega)
          have HNX : Hid (cn + q1 = 1 + cntL (d + 1) (ts.take (j + 1)) ∧ (if dn < q2 then q2 else dn) = depL (d + 1) (ts.take (j + 1))) := by
            refine ⟨by have := HE.out.1; omega, ?_⟩
            have := HE.out.2
            split <;> omega
          have hq1b : q1 ≤ 200 := by have := HCN.out; omega
          have hq2b : q2 ≤ 200 := by have := HCN.out; omega
          have HX3 : Hid (wr.cell? ⟨T, 3, none⟩ = some (.slice (some ⟨bb, oo, none⟩) lv cv)) := x3
          have HF4 : Hid (Four wr bb (oo + j * 4) t.K t.N t.S (.slice xa xl xc)) := ⟨f0, f1, f2, f3⟩
          clear g2 g3 g4 hel e' hq4 htk hcs hds hcP hdP hle hdl hq1 hq2 hxl x0 x1 x2 y0 y1 y2 y3 nTr
          go_wp2_with fail
          refine (HC.out _ (Below.refl _ _)).mono ?_
          rintro e V1 ⟨rfl, hV1⟩
          clear f0 f1 f2 f3 x3
          have x3 := cell_later hV1 HX3.out
          obtain ⟨f0, f1, f2, f3⟩ := HF4.out.later hV1
          go_wp2_with fail
          refine (HDD.out _ hV1).mono ?_
          rintro e V2 ⟨rfl, hV2⟩
          have hV12 : Below wr.heap.size wr V2 := hV1.trans (hV2.mono hV1.size)
          clear f0 f1 f2 f3 x3
          have x3 := cell_later hV12 HX3.out
          obtain ⟨f0, f1, f2, f3⟩ := HF4.out.later hV12
          by_cases hgt : dn < q2
          · have hgt' : (dn : Int) < (q2 : Int) := by omega
            go_wp2_with fail
            refine (HDD.out _ hV12).mono ?_
            rintro e V3 ⟨rfl, hV3⟩
            have hbf : Below W2.heap.size W2 V3 := hb.trans ((hV12.trans (hV3.mono hV12.size)).mono hb.size)
            have HE2 : Hid (cn + q1 = 1 + cntL (d + 1) (ts.take (j + 1)) ∧ q2 = depL (d + 1) (ts.take (j + 1))) := ⟨HNX.out.1, by rw [← HNX.out.2, if_pos hgt]⟩
            clear f0 f1 f2 f3 x3 hV1 hV2 hV12 hV3
            go_wp2_with fail
            go_roundw
            case rel => exact ⟨j + 1, cn + q1, q2, by omega, by go_num, by go_num, rfl, HE2, hbf⟩
            case measure => simp [intOf]; omega
          · have hgt' : decide ((dn : Int) < (q2 : Int)) = false := by simp; omega
            have hbf : Below W2.heap.size W2 V2 := hb.trans (hV12.mono hb.size)
            have HE2 : Hid (cn + q1 = 1 + cntL (d + 1) (ts.take (j + 1)) ∧ dn = depL (d + 1) (ts.take (j + 1))) := ⟨HNX.out.1, by rw [← HNX.out.2, if_neg hgt]⟩
            clear f0 f1 f2 f3 x3 hV1 hV2 hV12
            go_wp2_with fail
            go_roundw
            case rel => exact ⟨j + 1, cn + q1, dn, by omega, by go_num, by go_num, rfl, HE2, hbf⟩
            case measure => simp [intOf]; omega
      · obtain rfl : j = lv := by omega
        have htk : ts.take j = ts := List.take_of_length_le (by rw [HLV.out]; exact Nat.le_refl _)
        have HE2 : Hid (cn = 1 + cntL d ts ∧ dn = depL d ts) := by have := HE.out; rw [htk] at this; exact this
        have HOK : Hid (∀ V : World, Below wr.heap.size wr V → Calls Try.prog 12 #[.agg #[.int .i64 k, .int .i64 n, .string s, .slice av j cv]] V fun e w' => ∃ b : Bool, e = .returned (.bool b) ∧ (b = true ↔ Right d k n s ts 8 300) ∧ Below V.heap.size V w') := fun V hV => termOk_any d k n s _ ts V ((HRL.out.later hb).later hV) HWF.out HSS.out
        have HSO : Hid (∀ V : World, Below wr.heap.size wr V → Calls Try.prog 10 #[.agg #[.int .i64 k, .int .i64 n, .string s, .slice av j cv]] V fun e w' => ∃ b : Bool, e = .returned (.bool b) ∧ (b = true ↔ Right d k n s ts 8 300) ∧ Below V.heap.size V w') := fun V hV => specTermOk_any d k n s _ ts V ((HRL.out.later hb).later hV) HWF.out HSS.out
        have HC : Hid (∀ V : World, Below wr.heap.size wr V → Calls Try.prog 15 #[.agg #[.int .i64 k, .int .i64 n, .string s, .slice av j cv]] V fun e w' => e = .returned (.int .i64 (cn : Nat)) ∧ Below V.heap.size V w') := fun V hV => by
          rw [HE2.out.1]
          exact countOf_any d k n s _ ts V ((HQ.out.later hb).later hV) (by have := HCN.out; omega)
        have HDD : Hid (∀ V : World, Below wr.heap.size wr V → Calls Try.prog 17 #[.agg #[.int .i64 k, .int .i64 n, .string s, .slice av j cv]] V fun e w' => e = .returned (.int .i64 ((dn : Int) + 1)) ∧ Below V.heap.size V w') := fun V hV => by
          have h := depthOf_any d k n s _ ts V ((HQ.out.later hb).later hV) (by have := HCN.out; omega)
          rw [show ((1 + depL d ts : Nat) : Int) = (dn : Int) + 1 from by have := HE2.out.2; omega] at h
          exact h
        have HX : Hid (wr.cell? ⟨T, 0, none⟩ = some (.int .i64 k) ∧ wr.cell? ⟨T, 1, none⟩ = some (.int .i64 n) ∧ wr.cell? ⟨T, 2, none⟩ = some (.string s) ∧ wr.cell? ⟨T, 3, none⟩ = some (.slice av j cv)) := ⟨x0, x1, x2, x3⟩
        have HRT : Hid (∀ b : Bool, (b = true ↔ Right d k n s ts 8 300) → b = true → cn ≤ 300 ∧ dn < 8) := fun b hb hbt => by
          have h := hb.1 hbt
          have h1 := h.2.2.1
          have h2 := h.2.2.2
          have := HE2.out
          omega
        clear y0 y1 y2 y3 nTr htk
        go_wp2_with fail
        refine (HOK.out _ (Below.refl _ _)).mono ?_
        rintro e V1 ⟨b, rfl, hbi, hV1⟩
        have HBI : Hid (b = true ↔ Right d k n s ts 8 300) := hbi
        clear hbi x0 x1 x2 x3
        have x0 := cell_later hV1 HX.out.1
        have x1 := cell_later hV1 HX.out.2.1
        have x2 := cell_later hV1 HX.out.2.2.1
        have x3 := cell_later hV1 HX.out.2.2.2
        go_wp2_with fail
        refine (HC.out _ hV1).mono ?_
        rintro e V2 ⟨rfl, hV2⟩
        have hV12 : Below wr.heap.size wr V2 := hV1.trans (hV2.mono hV1.size)
        clear x0 x1 x2 x3 hV2 hV1
        have x0 := cell_later hV12 HX.out.1
        have x1 := cell_later hV12 HX.out.2.1
        have x2 := cell_later hV12 HX.out.2.2.1
        have x3 := cell_later hV12 HX.out.2.2.2
        go_wp2_with fail
        refine (HDD.out _ hV12).mono ?_
        rintro e V3 ⟨rfl, hV3⟩
        have hV13 : Below wr.heap.size wr V3 := hV12.trans (hV3.mono hV12.size)
        clear x0 x1 x2 x3 hV3 hV12
        have x0 := cell_later hV13 HX.out.1
        have x1 := cell_later hV13 HX.out.2.1
        have x2 := cell_later hV13 HX.out.2.2.1
        have x3 := cell_later hV13 HX.out.2.2.2
        go_wp2_with fail
        refine (HSO.out _ hV13).mono ?_
        rintro e V4 ⟨b2, rfl, hbi2, hV4⟩
        have hbb : b2 = b := Bool.eq_iff_iff.2 (hbi2.trans HBI.out.symm)
        subst hbb
        have hV14 : Below wr.heap.size wr V4 := hV13.trans (hV4.mono hV13.size)
        have hbf : Below w.heap.size w V4 := HBW.out.trans ((hb.trans (hV14.mono hb.size)).mono HBW.out.size)
        clear x0 x1 x2 x3 hV4 hV13 hV14 hbi2
        cases b2
        · go_wp2_with fail
          go_ret
          exact ⟨rfl, hbf⟩
        · obtain ⟨hc300, hd8⟩ := HRT.out true HBI.out rfl
          have hc300' : (cn : Int) ≤ 300 := by omega
          have hd8' : (dn : Int) < 8 := by omega
          go_wp2_with fail
          go_ret
          exact ⟨rfl, hbf⟩

set_option maxRecDepth 100000 in
theorem lifted (os : Os) (started : os.Started) (H : Type) (enc : TypeId × Value → H) :
    ReturnsInHanded {} Try.checked os 6 .any (Rows.fnCountsSpec.pre6 enc Try.prog Try.f6 Rows.fnCountsRow.domain false) (Rows.fnCountsSpec.post enc Try.prog Try.f6 false true false false) := by
  refine returnsInHanded_of_change (C := Try.checked) own started (by kernel_rfl) Try.func6
    (ChangeSpec.witness6 (enc := enc) (C := Try.checked) false ⟨#[], #[.slice none 0 0], []⟩ 8 (by kernel_rfl) (by kernel_rfl) (by kernel_rfl) (by kernel_rfl)) ?_
  intro W base args ds gs before hval0 hW hcnd _
  have hval : ∀ (j : Nat) t v, Try.f6.params[j]? = some t → args[j]? = some v → Value.okWide Try.prog W .any base t v := hval0
  have hW' := hW
  obtain ⟨p, q, hA0, hV, rfl, hfz, hnd⟩ := hW
  have hA : DataW.TrodAll enc Try.prog W 0 (fun _ => true) true Try.f6.params.toList args.toList ds p := hA0
  rw [Try.params6] at hA hval
  obtain ⟨v0, vs0, d0, ds0, p0, q0, hargs, rfl, rfl, h0, rr0⟩ := trodAll_cons hA
  obtain ⟨rfl, rfl, rfl⟩ := trodAll_nil rr0
  obtain rfl : args = #[v0] := by cases args; simp_all
  obtain ⟨rfl, rfl⟩ := trodVars_none hV
  obtain ⟨a0, len0, cap0, rfl⟩ := okWide_slice Try.underlying34 (hval 0 34 v0 rfl rfl)
  have k0 := h0
  have lt0 : ∀ x ∈ p0, x.block < W.heap.size := by obtain ⟨m, hm⟩ := k0; exact DataW.trod_lt m _ _ _ hm
  obtain ⟨z0, w0⟩ : ∃ zs, IsRow .u8 W a0 len0 cap0 zs := by
    obtain ⟨fuel, hf⟩ := h0
    rcases open_ints Try.underlying34 Try.underlying5 (by kernel_rfl) hf with ⟨hcs, _⟩ | ⟨x, l, c, zs, hcs, _, hl, hm, hz, _, hcell, hwz⟩
    · simp [Value.cells] at hcs
      obtain ⟨rfl, rfl, rfl⟩ := hcs
      exact ⟨[], .inl ⟨rfl, rfl, rfl, rfl⟩⟩
    · simp [Value.cells] at hcs
      obtain ⟨rfl, rfl, rfl⟩ := hcs
      exact ⟨zs, .inr ⟨_, rfl, hl, hm, by simpa using hz, hcell, hwz⟩⟩

  clear hA0 hval0
  refine (walk W a0 len0 cap0 z0 w0).mono fun e W' ⟨he, bel⟩ => ?_
  subst he
  exact ⟨_, rfl, _, _, _, [], _, [], hW', trodAll_mk1 (shut_bool Try.underlying4 _), (trodAll_cons_mk (Below.trod laidOut (by kernel_rfl) (of_decide_eq_true (by kernel_rfl)) k0 bel lt0) trodAll_mk0), rfl, bel.frame _, fun h => by cases h⟩

theorem over : Rows.fnCountsRow.holds Try.pinned (OpenSpec.ofChange Rows.fnCountsSpec) :=
  OpenClaim.holds_of_wide 6 Try.f6 rfl rfl rfl rfl rfl rfl rfl ⟨rfl, rfl, rfl, rfl, rfl⟩ rfl rfl rfl rfl rfl (by kernel_rfl) Try.func6 (by kernel_rfl)
    (of_decide_eq_true (by kernel_rfl)) (by unfold Func.isWrapper; first | (rw [if_pos (by decide +kernel)]; kernel_rfl) | (rw [if_neg (by decide +kernel)]; exact ⟨rfl, rfl⟩))
    (fun os started H enc _ => lifted os started H enc)

end Go.Proofs.Ytjdhkhpdhblhbaa.fnCounts
namespace Go.Proofs.Ytjdhkhpdhblhbaa
/-- THE STATEMENT. -/
theorem fnCounts_said : Rows.FnCountsSaid := fnCounts.over
#print axioms fnCounts_said
end Go.Proofs.Ytjdhkhpdhblhbaa
