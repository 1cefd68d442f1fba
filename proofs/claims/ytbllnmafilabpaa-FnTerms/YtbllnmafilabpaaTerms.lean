/- A drawn term that is right comes back of its bytes; one that is not has none. No condition. (The frame round the walk is the guide's own way.) -/
import Derived.Test.YtbllnmafilabpaaLawPM
import Derived.Test.YtbllnmafilabpaaSGetM
import Derived.Test.YtbllnmafilabpaaIPutM
import Derived.Test.YtbllnmafilabpaaDrGtM
import Derived.Test.YtbllnmafilabpaaPutM
import Derived.WalkKit
import Derived.Deep.DeepCutAuto
import Derived.ProofKit
import Derived.OpenShut
import Derived.ShutString
import Derived.ChangeOld
import Derived.Below
namespace Go.Proofs.Ytbllnmafilabpaa.fnTerms
open Go.ChangeShapes Go.WideShapes Go.ChangeAt Go.RowKit
open Go.ChangeMaps (open_string shut_string)
set_option linter.unusedVariables false

theorem own : ownKnob Try.prog.godebug = none := by kernel_rfl
theorem laidOut : laidOutB Try.prog = true := by kernel_rfl

set_option maxRecDepth 100000 in
set_option maxHeartbeats 8000000 in
theorem walk (w : World) (a0 : Option Addr) (len0 cap0 : Nat) (z0 : List Int) (w0 : IsRow .u8 w a0 len0 cap0 z0) :
    Calls Try.prog 3 #[.slice a0 len0 cap0] w fun e w' => e = .returned (.bool true) ∧ Below w.heap.size w w' := by
  by_cases hbig : 1048576 < len0
  · go_enter Try.func3, Try.ntmps3
    go_wp2_with fail
    refine (big_yes a0 len0 cap0 w hbig).mono ?_
    rintro e w' ⟨rfl, rfl⟩
    go_wp2
    go_ret
    exact ⟨rfl, Below.refl _ _⟩
  · have hm : len0 ≤ 1048576 := by omega
    have hD := drawPutTerm_any a0 len0 cap0 z0 w w0 hm
    clear w0
    go_enter Try.func3, Try.ntmps3
    go_wp2_with fail
    refine (big_no a0 len0 cap0 w hm).mono ?_
    rintro e w' ⟨rfl, rfl⟩
    go_wp2_with fail
    refine hD.mono ?_
    clear hD
    rintro e w1 ⟨k, n, s, av, lv, cv, rfl, HP⟩
    obtain ⟨⟨d, ts, fp, hown, _, hwf, hk, hn, hs, hcnt⟩, hb1⟩ := HP.out
    obtain ⟨xa0, xc0, ex0⟩ := hown.rd.len
    simp only [Value.slice.injEq] at ex0
    obtain ⟨W2, hW2⟩ : ∃ W, W = w1.alloc (.cells #[.int .i64 k, .int .i64 n, .string s, .slice av lv cv] 26) := ⟨_, rfl⟩
    have hbA : Below w1.heap.size w1 W2 := by rw [hW2]; exact (Below.refl _ _).alloc (Nat.le_refl _) _
    have nT : W2.heap[w1.heap.size]? = some (.cells #[.int .i64 k, .int .i64 n, .string s, .slice av lv cv] 26 (0, 0)) := by rw [hW2]; exact heap_alloc_new w1 _
    have hRL := hown.rd.later hbA
    have HRL : Hid (RdL d W2 (.slice av lv cv) ts) := hRL
    have HWF : Hid (WfL d ts) := hwf
    have HLV : Hid (ts.length = lv) := ex0.2.1.symm
    have HBW : Hid (Below w.heap.size w W2) := hb1.trans (hbA.mono hb1.size)
    have HSS : Hid (s.size ≤ 9223372036854775807) := by show _ ≤ _; omega
    have hC := putTerm_any d k n s _ ts W2 hRL hwf hk hn HSS.out
    have HX : Hid (∀ V : World, Below W2.heap.size W2 V → V.cell? ⟨w1.heap.size, 0, none⟩ = some (.int .i64 k) ∧ V.cell? ⟨w1.heap.size, 1, none⟩ = some (.int .i64 n) ∧ V.cell? ⟨w1.heap.size, 2, none⟩ = some (.string s) ∧ V.cell? ⟨w1.heap.size, 3, none⟩ = some (.slice av lv cv)) := fun V hV => by
      have hc := (hV.block _ (lt_of_row' nT)).trans nT
      exact ⟨by rw [cell_of_row V _ 0 _ _ _ hc]; rfl, by rw [cell_of_row V _ 1 _ _ _ hc]; rfl, by rw [cell_of_row V _ 2 _ _ _ hc]; rfl, by rw [cell_of_row V _ 3 _ _ _ hc]; rfl⟩
    have HOK : Hid (∀ V : World, Below W2.heap.size W2 V → Calls Try.prog 9 #[.agg #[.int .i64 k, .int .i64 n, .string s, .slice av lv cv]] V fun e w' => ∃ b : Bool, e = .returned (.bool b) ∧ (b = true ↔ Right d k n s ts 8 300) ∧ Below V.heap.size V w') := fun V hV => termOk_any d k n s _ ts V (HRL.out.later hV) HWF.out HSS.out
    have HSO : Hid (∀ V : World, Below W2.heap.size W2 V → Calls Try.prog 8 #[.agg #[.int .i64 k, .int .i64 n, .string s, .slice av lv cv]] V fun e w' => ∃ b : Bool, e = .returned (.bool b) ∧ (b = true ↔ Right d k n s ts 8 300) ∧ Below V.heap.size V w') := fun V hV => specTermOk_any d k n s _ ts V (HRL.out.later hV) HWF.out HSS.out
    rw [hW2] at hC
    have HW2 : Hid (W2 = _) := hW2
    clear hW2 hown hRL hwf hcnt hbA nT HP hk hn hs ex0 hb1
    go_wp2_with fail
    refine hC.mono ?_
    clear hC
    rintro e w3 ⟨v, rfl, hv, bel3⟩
    rw [← HW2.out] at hv bel3
    obtain ⟨vb, rfl, HVB⟩ : ∃ vb : Option Addr × Nat × Nat, v = .slice vb.1 vb.2.1 vb.2.2 ∧ Hid ((Right d k n s ts 8 300 ∧ w3.ownsRow W2.heap.size 5 1 (.slice vb.1 vb.2.1 vb.2.2) (encT d k n s ts).length ((encT d k n s ts).map (Value.int .u8))) ∨ (¬ Right d k n s ts 8 300 ∧ vb.2.1 = 0)) := by
      rcases hv with ⟨h1, h2⟩ | ⟨h1, rfl⟩
      · obtain ⟨a, l, c, rfl⟩ := row_slice h2
        exact ⟨(a, l, c), rfl, .inl ⟨h1, h2⟩⟩
      · exact ⟨(none, 0, 0), rfl, .inr ⟨h1, rfl⟩⟩
    obtain ⟨x0, x1, x2, x3⟩ := HX.out w3 bel3
    have HB3 : Hid (Below W2.heap.size W2 w3) := bel3
    clear hv
    go_wp2_with fail
    refine (HSO.out _ bel3).mono ?_
    rintro e w4 ⟨b, rfl, hb, bel4⟩
    have hb4 : Below W2.heap.size W2 w4 := HB3.out.trans (bel4.mono HB3.out.size)
    have HB4 : Hid (Below W2.heap.size W2 w4 ∧ Below w3.heap.size w3 w4) := ⟨hb4, bel4⟩
    have HBB : Hid (b = true ↔ Right d k n s ts 8 300) := hb
    clear x0 x1 x2 x3 hb bel3 bel4
    obtain ⟨x0, x1, x2, x3⟩ := HX.out w4 hb4
    cases b
    · have hnr : ¬ Right d k n s ts 8 300 := fun h => by have := HBB.out.2 h; cases this
      obtain ⟨va, vl, vc⟩ := vb
      obtain rfl : vl = 0 := by
        rcases HVB.out with ⟨h, _⟩ | ⟨_, h⟩
        · exact absurd h hnr
        · exact h
      go_wp2_with fail
      refine (HOK.out _ hb4).mono ?_
      rintro e w5 ⟨b2, rfl, hb2, bel5⟩
      obtain rfl : b2 = false := by
        cases b2 with
        | false => rfl
        | true => exact absurd (hb2.1 rfl) hnr
      have hbf : Below w.heap.size w w5 := HBW.out.trans ((hb4.trans (bel5.mono hb4.size)).mono HBW.out.size)
      clear x0 x1 x2 x3 bel5 hb2 hb4
      go_wp2_with fail
      go_ret
      exact ⟨rfl, hbf⟩
    · have hR : Right d k n s ts 8 300 := HBB.out.1 rfl
      have HRR : Hid (Right d k n s ts 8 300) := hR
      obtain ⟨us, hR7, hlen7, henc7, hrd7⟩ := right_seven hR
      have hrow : w3.ownsRow W2.heap.size 5 1 (.slice vb.1 vb.2.1 vb.2.2) (encT d k n s ts).length ((encT d k n s ts).map (Value.int .u8)) := by
        rcases HVB.out with ⟨_, h⟩ | ⟨h, _⟩
        · exact h
        · exact absurd hR h
      have hpos := encT_pos d k n s ts
      have hle := right_len hR
      obtain ⟨va, vl, vc⟩ := vb
      obtain ⟨g, rfl, rfl, hc1, hc2⟩ : ∃ g, va = some ⟨g, 0, none⟩ ∧ vl = (encT d k n s ts).length ∧ vl ≤ vc ∧ vc ≤ maxLen := by
        rcases hrow.2 with ⟨_, e⟩ | ⟨g', c', cur, e1, _, _, q1, q2, _⟩
        · omega
        · simp only [Value.slice.injEq] at e1
          exact ⟨g', e1.1, e1.2.1, by omega, by omega⟩
      obtain ⟨N, hN⟩ : ∃ N, (encT d k n s ts).length = N := ⟨_, rfl⟩
      have hBt : Bts N vc (encT d k n s ts) := ⟨hN, by omega, by omega, by unfold maxLen at hc2; omega, fun j => by
        cases hj : (encT d k n s ts)[j]? with
        | none => simp
        | some x => exact encT_byte d k n s ts x (List.mem_of_getElem? hj)⟩
      have hgz : g < w4.heap.size := by
        rcases hrow.2 with ⟨_, e⟩ | ⟨g', c', cur, e1, _, q, _⟩
        · omega
        · simp only [Value.slice.injEq, Option.some.injEq, Addr.mk.injEq, and_true] at e1
          have := lt_of_row' q
          have := HB4.out.2.size
          omega
      have hG := getTerm_any g 0 N vc (encT d k n s ts) w4 hBt hgz (fun i hi => by
        have hr' : w3.ownsRow W2.heap.size 5 1 (.slice (some ⟨g, 0, none⟩) (encT d k n s ts).length vc) (encT d k n s ts).length ((encT d k n s ts).map (Value.int .u8)) := hrow
        have := cell_later HB4.out.2 (row_at hr' i (by rw [hN]; exact hi)).1
        rwa [Nat.zero_add])
      have HR7 : Hid (Right 7 k n s us 8 300 ∧ getT (encT d k n s ts) 8 0 = some (((k, n, s, us) : Int × Int × ByteArray × List (Tm 7)), (N : Int))) := ⟨hR7, by have := right_back hR7; rw [henc7, hN] at this; exact this⟩
      have HRD7 : Hid (∀ V : World, Below W2.heap.size W2 V → RdL 7 V (.slice av lv cv) us) := fun V hV => hrd7 V _ (HRL.out.later hV)
      have HLU : Hid (us.length = lv) := hlen7.trans HLV.out
      simp only [hN] at hG ⊢
      clear hrow hBt hgz hR hR7 hlen7 henc7 hrd7 hc1 hc2 hpos hle HVB
      go_wp2_with fail
      refine hG.mono ?_
      clear hG
      rintro e w5 ⟨k', x', s', av', l', cv', ok', rfl, hP⟩
      obtain ⟨bel5, hyes, hno⟩ := hP
      have hok : ok' = true := by
        cases ok' with
        | true => rfl
        | false =>
          obtain ⟨_, _, _, _, _, _, hn⟩ := hno rfl
          exact absurd ⟨_, HR7.out.2, HR7.out.1⟩ hn
      subst hok
      obtain ⟨ts', fp', o1, _, o3, o4, o5, o6, o7, o8⟩ := hyes rfl
      have heq := o7.symm.trans HR7.out.2
      have heq1 : ((k', x', s', ts') : Int × Int × ByteArray × List (Tm 7)) = (k, n, s, us) := congrArg Prod.fst (Option.some.inj heq)
      simp only [Prod.mk.injEq] at heq1
      clear heq
      obtain ⟨rfl, rfl, rfl, rfl⟩ := heq1
      obtain ⟨xa1, xc1, ex1⟩ := o1.rd.len
      simp only [Value.slice.injEq] at ex1
      obtain rfl : l' = lv := ex1.2.1.trans HLU.out
      obtain ⟨W6, hW6⟩ : ∃ W, W = w5.alloc (.cells #[.int .i64 k', .int .i64 x', .string s', .slice av' l' cv'] 26) := ⟨_, rfl⟩
      have hbB : Below w5.heap.size w5 W6 := by rw [hW6]; exact (Below.refl _ _).alloc (Nat.le_refl _) _
      have hb26 : Below W2.heap.size W2 W6 := hb4.trans ((bel5.trans (hbB.mono bel5.size)).mono hb4.size)
      have n6 : W6.heap[w5.heap.size]? = some (.cells #[.int .i64 k', .int .i64 x', .string s', .slice av' l' cv'] 26 (0, 0)) := by rw [hW6]; exact heap_alloc_new w5 _
      have hS := sameTerm_yes k' x' s' av' av l' cv' cv ts' W6 (o1.rd.later hbB) (HRD7.out W6 hb26) HR7.out.1
      obtain ⟨y0, y1, y2, y3⟩ := HX.out W6 hb26
      have z0 : W6.cell? ⟨w5.heap.size, 0, none⟩ = some (.int .i64 k') := by rw [cell_of_row W6 _ 0 _ _ _ n6]; rfl
      have z1 : W6.cell? ⟨w5.heap.size, 1, none⟩ = some (.int .i64 x') := by rw [cell_of_row W6 _ 1 _ _ _ n6]; rfl
      have z2 : W6.cell? ⟨w5.heap.size, 2, none⟩ = some (.string s') := by rw [cell_of_row W6 _ 2 _ _ _ n6]; rfl
      have z3 : W6.cell? ⟨w5.heap.size, 3, none⟩ = some (.slice av' l' cv') := by rw [cell_of_row W6 _ 3 _ _ _ n6]; rfl
      have HB6 : Hid (Below W2.heap.size W2 W6) := hb26
      rw [hW6] at hS y0 y1 y2 y3 z0 z1 z2 z3
      have HW6 : Hid (W6 = _) := hW6
      clear hW6 o1 o3 o4 o5 o6 o7 o8 hyes hno ex1 n6 hbB hb26 bel5 x0 x1 x2 x3
      go_wp2_with fail
      refine hS.mono ?_
      clear hS
      rintro e w7 ⟨rfl, bel7⟩
      rw [← HW6.out] at bel7
      have hb7 : Below W2.heap.size W2 w7 := HB6.out.trans (bel7.mono HB6.out.size)
      clear y0 y1 y2 y3 z0 z1 z2 z3
      obtain ⟨x0, x1, x2, x3⟩ := HX.out w7 hb7
      go_wp2_with fail
      refine (HOK.out _ hb7).mono ?_
      rintro e w8 ⟨b2, rfl, hb2, bel8⟩
      obtain rfl : b2 = true := hb2.2 HRR.out
      have hbf : Below w.heap.size w w8 := HBW.out.trans ((hb7.trans (bel8.mono hb7.size)).mono HBW.out.size)
      clear x0 x1 x2 x3 bel8 hb2 hb7
      go_wp2_with fail
      go_ret
      exact ⟨rfl, hbf⟩

set_option maxRecDepth 100000 in
theorem lifted (os : Os) (started : os.Started) (H : Type) (enc : TypeId × Value → H) :
    ReturnsInHanded {} Try.checked os 3 .any (Rows.fnTermsSpec.pre6 enc Try.prog Try.f3 Rows.fnTermsRow.domain false) (Rows.fnTermsSpec.post enc Try.prog Try.f3 false true false false) := by
  refine returnsInHanded_of_change (C := Try.checked) own started (by kernel_rfl) Try.func3
    (ChangeSpec.witness6 (enc := enc) (C := Try.checked) false ⟨#[], #[.slice none 0 0], []⟩ 8 (by kernel_rfl) (by kernel_rfl) (by kernel_rfl) (by kernel_rfl)) ?_
  intro W base args ds gs before hval0 hW hcnd _
  have hval : ∀ (j : Nat) t v, Try.f3.params[j]? = some t → args[j]? = some v → Value.okWide Try.prog W .any base t v := hval0
  have hW' := hW
  obtain ⟨p, q, hA0, hV, rfl, hfz, hnd⟩ := hW
  have hA : DataW.TrodAll enc Try.prog W 0 (fun _ => true) true Try.f3.params.toList args.toList ds p := hA0
  rw [Try.params3] at hA hval
  obtain ⟨v0, vs0, d0, ds0, p0, q0, hargs, rfl, rfl, h0, rr0⟩ := trodAll_cons hA
  obtain ⟨rfl, rfl, rfl⟩ := trodAll_nil rr0
  obtain rfl : args = #[v0] := by cases args; simp_all
  obtain ⟨rfl, rfl⟩ := trodVars_none hV
  obtain ⟨a0, len0, cap0, rfl⟩ := okWide_slice Try.underlying22 (hval 0 22 v0 rfl rfl)
  have k0 := h0
  have lt0 : ∀ x ∈ p0, x.block < W.heap.size := by obtain ⟨m, hm⟩ := k0; exact DataW.trod_lt m _ _ _ hm
  obtain ⟨z0, w0⟩ : ∃ zs, IsRow .u8 W a0 len0 cap0 zs := by
    obtain ⟨fuel, hf⟩ := h0
    rcases open_ints Try.underlying22 Try.underlying5 (by kernel_rfl) hf with ⟨hcs, _⟩ | ⟨x, l, c, zs, hcs, _, hl, hm, hz, _, hcell, hwz⟩
    · simp [Value.cells] at hcs
      obtain ⟨rfl, rfl, rfl⟩ := hcs
      exact ⟨[], .inl ⟨rfl, rfl, rfl, rfl⟩⟩
    · simp [Value.cells] at hcs
      obtain ⟨rfl, rfl, rfl⟩ := hcs
      exact ⟨zs, .inr ⟨_, rfl, hl, hm, by simpa using hz, hcell, hwz⟩⟩

  clear hA0 hval0
  refine (walk W a0 len0 cap0 z0 w0).mono fun e W' ⟨he, bel⟩ => ?_
  subst he
  exact ⟨_, rfl, _, _, _, [], _, [], hW', trodAll_mk1 (shut_bool Try.underlying4 _), (trodAll_cons_mk (Below.trod laidOut (by kernel_rfl) (of_decide_eq_true (by kernel_rfl)) k0 bel lt0) trodAll_mk0), rfl, bel.frame _, fun h => by cases h⟩

theorem over : Rows.fnTermsRow.holds Try.pinned (OpenSpec.ofChange Rows.fnTermsSpec) :=
  OpenClaim.holds_of_wide 3 Try.f3 rfl rfl rfl rfl rfl rfl rfl ⟨rfl, rfl, rfl, rfl, rfl⟩ rfl rfl rfl rfl rfl (by kernel_rfl) Try.func3 (by kernel_rfl)
    (of_decide_eq_true (by kernel_rfl)) (by unfold Func.isWrapper; first | (rw [if_pos (by decide +kernel)]; kernel_rfl) | (rw [if_neg (by decide +kernel)]; exact ⟨rfl, rfl⟩))
    (fun os started H enc _ => lifted os started H enc)

end Go.Proofs.Ytbllnmafilabpaa.fnTerms
namespace Go.Proofs.Ytbllnmafilabpaa
/-- THE STATEMENT. -/
theorem fnTerms_said : Rows.FnTermsSaid := fnTerms.over
#print axioms fnTerms_said
end Go.Proofs.Ytbllnmafilabpaa
