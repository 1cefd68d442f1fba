/- What is read of drawn bytes as a term is right, and has these bytes; the model reads the same. No condition. (The frame round the walk is the guide's own way.) -/
import Derived.Test.YthjmbbpakidkdaaReadTermsC
import Derived.Test.YthjmbbpakidkdaaLawR
import Derived.Test.YthjmbbpakidkdaaLawG
import Derived.Test.YthjmbbpakidkdaaIPut
import Derived.WalkKit
import Derived.ProofKit
import Derived.OpenShut
import Derived.ShutString
import Derived.ChangeOld
import Derived.Below
namespace Go.Proofs.Ythjmbbpakidkdaa.fnReadTerms
open Go.ChangeShapes Go.WideShapes Go.ChangeAt Go.RowKit
open Go.ChangeMaps (open_string shut_string)
set_option linter.unusedVariables false

theorem own : ownKnob Try.prog.godebug = none := by kernel_rfl
theorem laidOut : laidOutB Try.prog = true := by kernel_rfl

set_option maxHeartbeats 1000000 in
theorem walk (w : World) (a0 : Option Addr) (len0 cap0 : Nat) (z0 : List Int) (w0 : IsRow .u8 w a0 len0 cap0 z0) :
    Calls Try.prog 4 #[.slice a0 len0 cap0] w fun e w' => e = .returned (.bool true) ∧ Below w.heap.size w w' := by
  by_cases hbig : 1048576 < len0
  · go_enter Try.func4, Try.ntmps4
    go_wp2_with fail
    refine (big_yes a0 len0 cap0 w hbig).mono ?_
    rintro e w' ⟨rfl, rfl⟩
    go_wp2
    go_ret
    exact ⟨rfl, Below.refl _ _⟩
  · have hm : len0 ≤ 1048576 := by omega
    have hD := drawGetTerm_any a0 len0 cap0 z0 w w0 hm
    clear w0
    go_enter Try.func4, Try.ntmps4
    go_wp2_with fail
    refine (big_no a0 len0 cap0 w hm).mono ?_
    rintro e w' ⟨rfl, rfl⟩
    go_wp2_with fail
    refine hD.mono ?_
    clear hD
    rintro e w1 ⟨g, n, c, ys, rfl, HD⟩
    obtain ⟨hBt, hgz, hrow, bel1⟩ := HD.out
    have HROW : Hid (∀ i, i < n → w1.cell? ⟨g, 0 + i, none⟩ = some (.int .u8 (ys.getD i 0))) := hrow
    have HBT : Hid (Bts n c ys) := hBt
    clear HD hBt hrow
    go_wp2_with fail
    refine (getTerm_any g 0 n c ys w1 HBT.out hgz HROW.out).mono ?_
    rintro e w2 ⟨k, x, s, av, l, cv, ok, rfl, hP⟩
    obtain ⟨ts, fw, o1, o2, o3, o4, bel2⟩ := gpost_own hP
    have hzero : ok = false → k = 0 ∧ x = 0 ∧ s = ByteArray.empty ∧ l = 0 := fun e => by
      obtain ⟨q1, q2, q3, _, q5, _⟩ := hP.2.2 e
      exact ⟨q1, q2, q3, q5⟩
    have hI : ok = true → I64 k ∧ I64 x ∧ s.size ≤ maxLen := fun e => by
      obtain ⟨_, _, _, _, _, q1, q2, q3, _⟩ := hP.2.1 e
      exact ⟨q1, q2, q3⟩
    have HZR : Hid (ok = false → k = 0 ∧ x = 0 ∧ s = ByteArray.empty ∧ l = 0) := hzero
    have HI : Hid (ok = true → I64 k ∧ I64 x ∧ s.size ≤ maxLen) := hI
    have HGA : Hid (GA ys n k x s ts ok) := o4
    have HWF : Hid (WfL 7 ts) := o3
    clear hP hzero hI o2 o3 o4
    obtain ⟨W2, hW2⟩ : ∃ W, W = w2.alloc (.cells #[.int .i64 k, .int .i64 x, .string s, .slice av l cv] 26) := ⟨_, rfl⟩
    have belA : Below w2.heap.size w2 W2 := by rw [hW2]; exact (Below.refl _ _).alloc (Nat.le_refl _) _
    have ht2 : W2.heap[w2.heap.size]? = some (.cells #[.int .i64 k, .int .i64 x, .string s, .slice av l cv] 26 (0, 0)) := by rw [hW2]; exact heap_alloc_new w2 _
    have bel12 : Below w1.heap.size w1 W2 := bel2.trans (belA.mono bel2.size)
    have hrd2 := o1.rd.later belA
    have hC := specGetTerm_any g 0 n c ys W2 HBT.out (Nat.lt_of_lt_of_le hgz bel12.size) (fun i hi => cell_later bel12 (HROW.out i hi))
    have hz2 : w2.heap.size < W2.heap.size := by rw [hW2]; simp
    rw [hW2] at hC
    have HW2 : Hid (W2 = _) := hW2
    clear hW2 o1 bel2 belA
    go_wp2_with fail
    refine hC.mono ?_
    clear hC
    rintro e w3 ⟨k', x', s', av', l', cv', ok', rfl, hP⟩
    rw [← HW2.out] at hP
    obtain ⟨ts', fw', o1, o2, o3, o4, bel3⟩ := gpost_own hP
    obtain ⟨e1, e2, e3, e4, e5⟩ := HGA.out.same o4
    subst e1 e2 e3 e5
    have ht3 := (bel3.block _ hz2).trans ht2
    have hrd3 := hrd2.later bel3
    have bel13 : Below w1.heap.size w1 w3 := bel12.trans (bel3.mono bel12.size)
    have hz3 : w2.heap.size < w3.heap.size := Nat.lt_of_lt_of_le hz2 bel3.size
    obtain ⟨W3, hW3⟩ : ∃ W, W = w3.alloc (.cells #[.int .i64 k, .int .i64 x, .string s, .slice av' l' cv'] 26) := ⟨_, rfl⟩
    have belB : Below w3.heap.size w3 W3 := by rw [hW3]; exact (Below.refl _ _).alloc (Nat.le_refl _) _
    have ht4 := (belB.block _ hz3).trans ht3
    have hrd4 := hrd3.later belB
    have bel14 : Below w1.heap.size w1 W3 := bel13.trans (belB.mono bel13.size)
    have belW : Below w.heap.size w W3 := bel1.trans (bel14.mono bel1.size)
    have hz4 : w2.heap.size < W3.heap.size := Nat.lt_of_lt_of_le hz3 belB.size
    have c0 : W3.cell? ⟨w2.heap.size, 0, none⟩ = some (.int .i64 k) := by rw [cell_of_row W3 _ 0 _ _ _ ht4]; rfl
    have c1 : W3.cell? ⟨w2.heap.size, 1, none⟩ = some (.int .i64 x) := by rw [cell_of_row W3 _ 1 _ _ _ ht4]; rfl
    have c2 : W3.cell? ⟨w2.heap.size, 2, none⟩ = some (.string s) := by rw [cell_of_row W3 _ 2 _ _ _ ht4]; rfl
    have c3 : W3.cell? ⟨w2.heap.size, 3, none⟩ = some (.slice av l cv) := by rw [cell_of_row W3 _ 3 _ _ _ ht4]; rfl
    have HRD : Hid (RdL 7 W3 (.slice av l cv) ts) := hrd4
    have HB4 : Hid (Below w1.heap.size w1 W3) := bel14
    have HBW : Hid (Below w.heap.size w W3) := belW
    have HC0 : Hid (W3.cell? ⟨w2.heap.size, 0, none⟩ = some (.int .i64 k) ∧ W3.cell? ⟨w2.heap.size, 1, none⟩ = some (.int .i64 x) ∧ W3.cell? ⟨w2.heap.size, 2, none⟩ = some (.string s) ∧ W3.cell? ⟨w2.heap.size, 3, none⟩ = some (.slice av l cv)) := ⟨c0, c1, c2, c3⟩
    rw [hW3] at c0 c1 c2 c3
    have HW3 : Hid (W3 = _) := hW3
    clear hW3 o1 o2 o3 o4 hP ht2 ht3 ht4 hrd2 hrd3 hrd4 bel12 bel13 bel14 belW belB bel3 HW2 hz2 hz3
    cases ok
    · obtain ⟨rfl, rfl, rfl, rfl⟩ := HZR.out rfl
      go_wp2_with fail
      refine (zero_yes av cv _).mono ?_
      rintro e w5 ⟨rfl, bel5⟩
      rw [← HW3.out] at bel5
      have hbf : Below w.heap.size w w5 := HBW.out.trans (bel5.mono HBW.out.size)
      clear bel5 c0 c1 c2 c3
      go_wp2_with fail
      go_ret
      exact ⟨rfl, hbf⟩
    · obtain ⟨hI1, hI2, hI3⟩ := HI.out rfl
      have HR : Hid (getT ys 8 0 = some (((k, x, s, ts) : Int × Int × ByteArray × List (Tm 7)), (n : Int)) ∧ Right 7 k x s ts 8 300) := by
        rcases HGA.out with ⟨_, h1, h2⟩ | ⟨h, _⟩
        · exact ⟨h1, h2⟩
        · cases h
      have HEN : Hid (encT 7 k x s ts = ys) := getT_all ys HBT.out.rng k x s ts (by rw [HBT.out.len]; exact HR.out.1)
      have hC := termOk_any 7 k x s _ ts W3 HRD.out HWF.out (Nat.le_trans hI3 (by decide))
      rw [HW3.out] at hC
      go_wp2_with fail
      refine hC.mono ?_
      clear hC
      rintro e w5 ⟨b, rfl, hb, bel5⟩
      rw [← HW3.out] at bel5
      obtain rfl : b = true := hb.2 HR.out.2
      have d0 := cell_later bel5 HC0.out.1
      have d1 := cell_later bel5 HC0.out.2.1
      have d2 := cell_later bel5 HC0.out.2.2.1
      have d3 := cell_later bel5 HC0.out.2.2.2
      have hC := putTerm_any 7 k x s _ ts w5 (HRD.out.later bel5) HWF.out hI1 hI2 (Nat.le_trans hI3 (by decide))
      have HB5 : Hid (Below w1.heap.size w1 w5) := HB4.out.trans (bel5.mono HB4.out.size)
      have HBW5 : Hid (Below w.heap.size w w5) := HBW.out.trans (bel5.mono HBW.out.size)
      clear bel5 hb c0 c1 c2 c3
      go_wp2_with fail
      refine hC.mono ?_
      clear hC
      rintro e w6 ⟨v, rfl, hv, bel6⟩
      have hrow6 : w6.ownsRow w5.heap.size 5 1 v n (ys.map (Value.int .u8)) := by
        rcases hv with ⟨_, h⟩ | ⟨h, _⟩
        · rw [HEN.out, HBT.out.len] at h; exact h
        · exact absurd HR.out.2 h
      obtain ⟨g6, c6, rfl⟩ : ∃ g6 c6, v = .slice (some ⟨g6, 0, none⟩) n c6 := by
        rcases hrow6.2 with ⟨_, e⟩ | ⟨g', c', cur, e1, _⟩
        · have h1 := encT_pos 7 k x s ts
          rw [HEN.out, HBT.out.len] at h1
          omega
        · exact ⟨g', c', e1⟩
      have hbel16 : Below w1.heap.size w1 w6 := HB5.out.trans (bel6.mono HB5.out.size)
      have hS := sameBytes_yes g6 g n c6 c ys w6 HBT.out.le (fun i hi => (row_at hrow6 i hi).1) (fun i hi => by have := cell_later hbel16 (HROW.out i hi); rwa [Nat.zero_add] at this)
      have HB6 : Hid (Below w.heap.size w w6) := HBW5.out.trans (bel6.mono HBW5.out.size)
      clear hv hrow6 bel6 hbel16 d0 d1 d2 d3
      go_wp2_with fail
      refine hS.mono ?_
      clear hS
      rintro e w7 ⟨rfl, bel7⟩
      have hbf : Below w.heap.size w w7 := HB6.out.trans (bel7.mono HB6.out.size)
      clear bel7
      go_wp2_with fail
      go_ret
      exact ⟨rfl, hbf⟩

set_option maxRecDepth 100000 in
theorem lifted (os : Os) (started : os.Started) (H : Type) (enc : TypeId × Value → H) :
    ReturnsInHanded {} Try.checked os 4 .any (Rows.fnReadTermsSpec.pre6 enc Try.prog Try.f4 Rows.fnReadTermsRow.domain false) (Rows.fnReadTermsSpec.post enc Try.prog Try.f4 false true false false) := by
  refine returnsInHanded_of_change (C := Try.checked) own started (by kernel_rfl) Try.func4
    (ChangeSpec.witness6 (enc := enc) (C := Try.checked) false ⟨#[], #[.slice none 0 0], []⟩ 8 (by kernel_rfl) (by kernel_rfl) (by kernel_rfl) (by kernel_rfl)) ?_
  intro W base args ds gs before hval0 hW hcnd _
  have hval : ∀ (j : Nat) t v, Try.f4.params[j]? = some t → args[j]? = some v → Value.okWide Try.prog W .any base t v := hval0
  have hW' := hW
  obtain ⟨p, q, hA0, hV, rfl, hfz, hnd⟩ := hW
  have hA : DataW.TrodAll enc Try.prog W 0 (fun _ => true) true Try.f4.params.toList args.toList ds p := hA0
  rw [Try.params4] at hA hval
  obtain ⟨v0, vs0, d0, ds0, p0, q0, hargs, rfl, rfl, h0, rr0⟩ := trodAll_cons hA
  obtain ⟨rfl, rfl, rfl⟩ := trodAll_nil rr0
  obtain rfl : args = #[v0] := by cases args; simp_all
  obtain ⟨rfl, rfl⟩ := trodVars_none hV
  obtain ⟨a0, len0, cap0, rfl⟩ := okWide_slice Try.underlying22 (hval 0 22 v0 rfl rfl)
  have k0 := h0
  have lt0 : ∀ x ∈ p0, x.block < W.heap.size := by obtain ⟨m, hm⟩ := k0; exact DataW.trod_lt m _ _ _ hm
  obtain ⟨z0, w0⟩ : ∃ zs, IsRow .u8 W a0 len0 cap0 zs := by
    obtain ⟨fuel, hf⟩ := h0
    rcases open_ints Try.underlying22 Try.underlying5 (by kernel_rfl) hf with ⟨hcs, _⟩ | ⟨x, l, c, zs, hcs, _, hl, hm, hz, _, hcell, hwz⟩
    · simp [Value.cells] at hcs
      obtain ⟨rfl, rfl, rfl⟩ := hcs
      exact ⟨[], .inl ⟨rfl, rfl, rfl, rfl⟩⟩
    · simp [Value.cells] at hcs
      obtain ⟨rfl, rfl, rfl⟩ := hcs
      exact ⟨zs, .inr ⟨_, rfl, hl, hm, by simpa using hz, hcell, hwz⟩⟩

  clear hA0 hval0
  refine (walk W a0 len0 cap0 z0 w0).mono fun e W' ⟨he, bel⟩ => ?_
  subst he
  exact ⟨_, rfl, _, _, _, [], _, [], hW', trodAll_mk1 (shut_bool Try.underlying4 _), (trodAll_cons_mk (Below.trod laidOut (by kernel_rfl) (of_decide_eq_true (by kernel_rfl)) k0 bel lt0) trodAll_mk0), rfl, bel.frame _, fun h => by cases h⟩

theorem over : Rows.fnReadTermsRow.holds Try.pinned (OpenSpec.ofChange Rows.fnReadTermsSpec) :=
  OpenClaim.holds_of_wide 4 Try.f4 rfl rfl rfl rfl rfl rfl rfl ⟨rfl, rfl, rfl, rfl, rfl⟩ rfl rfl rfl rfl rfl (by kernel_rfl) Try.func4 closed
    (of_decide_eq_true (by kernel_rfl)) (by unfold Func.isWrapper; first | (rw [if_pos (by decide +kernel)]; kernel_rfl) | (rw [if_neg (by decide +kernel)]; exact ⟨rfl, rfl⟩))
    (fun os started H enc _ => lifted os started H enc)

end Go.Proofs.Ythjmbbpakidkdaa.fnReadTerms
namespace Go.Proofs.Ythjmbbpakidkdaa
/-- THE STATEMENT. -/
theorem fnReadTerms_said : Rows.FnReadTermsSaid := fnReadTerms.over
#print axioms fnReadTerms_said
end Go.Proofs.Ythjmbbpakidkdaa
