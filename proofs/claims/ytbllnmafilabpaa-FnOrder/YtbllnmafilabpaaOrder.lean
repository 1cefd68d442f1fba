/- Of three drawn terms the order holds: of two that are unlike one is less and not the other, as the model says, and what is less than one that is less than a third is less than the third. No condition. (The frame round the walk is the guide's own way.) -/
import Derived.Test.YtbllnmafilabpaaLawOrM
import Derived.Test.YtbllnmafilabpaaPutM
import Derived.WalkKit
import Derived.Deep.DeepCutAuto
import Derived.ProofKit
import Derived.OpenShut
import Derived.ShutString
import Derived.ChangeOld
import Derived.Below
namespace Go.Proofs.Ytbllnmafilabpaa.fnOrder
open Go.ChangeShapes Go.WideShapes Go.ChangeAt Go.RowKit
open Go.ChangeMaps (open_string shut_string)
set_option linter.unusedVariables false

theorem own : ownKnob Try.prog.godebug = none := by kernel_rfl
theorem laidOut : laidOutB Try.prog = true := by kernel_rfl

set_option maxRecDepth 100000 in
set_option maxHeartbeats 8000000 in
theorem walk (w : World) (a0 : Option Addr) (len0 cap0 : Nat) (z0 : List Int) (w0 : IsRow .u8 w a0 len0 cap0 z0) :
    Calls Try.prog 4 #[.slice a0 len0 cap0] w fun e w' => e = .returned (.bool true) ∧ Below w.heap.size w w' := by
  by_cases hbig : 1048576 < len0
  · go_enter Try.func4, Try.ntmps4
    go_wp2_with fail
    refine (big_yes a0 len0 cap0 w hbig).mono ?_
    rintro e w' ⟨rfl, rfl⟩
    go_wp2
    go_ret
    exact ⟨rfl, Below.refl _ _⟩
  · have hm : len0 ≤ 1048576 := by omega
    have hD := drawTerms_any a0 len0 cap0 z0 w w0 hm
    clear w0
    go_enter Try.func4, Try.ntmps4
    go_wp2_with fail
    refine (big_no a0 len0 cap0 w hm).mono ?_
    rintro e w' ⟨rfl, rfl⟩
    go_wp2_with fail
    refine hD.mono ?_
    clear hD
    rintro e w1 ⟨k, n, s, av, lv, cv, k2, n2, s2, av2, lv2, cv2, k3, n3, s3, av3, lv3, cv3, rfl, HP⟩
    obtain ⟨⟨ts, f1, o1, _, g1, _, _, _, m1⟩, ⟨us, f2, o2, _, g2, _, _, _, m2⟩, ⟨vs, f3, o3, _, g3, _, _, _, m3⟩, hb1⟩ := HP.out
    obtain ⟨W2, hW2⟩ : ∃ W, W = ((w1.alloc (.cells #[.int .i64 k, .int .i64 n, .string s, .slice av lv cv] 26)).alloc (.cells #[.int .i64 k2, .int .i64 n2, .string s2, .slice av2 lv2 cv2] 26)).alloc (.cells #[.int .i64 k3, .int .i64 n3, .string s3, .slice av3 lv3 cv3] 26) := ⟨_, rfl⟩
    obtain ⟨V2, hV2⟩ : ∃ W, W = (w1.alloc (.cells #[.int .i64 k, .int .i64 n, .string s, .slice av lv cv] 26)).alloc (.cells #[.int .i64 k2, .int .i64 n2, .string s2, .slice av2 lv2 cv2] 26) := ⟨_, rfl⟩
    obtain ⟨nA, nB⟩ := heap_two w1 (.cells #[.int .i64 k, .int .i64 n, .string s, .slice av lv cv] 26) (.cells #[.int .i64 k2, .int .i64 n2, .string s2, .slice av2 lv2 cv2] 26)
    rw [← hV2] at nA nB
    have zV : V2.heap.size = w1.heap.size + 1 + 1 := by rw [hV2]; simp
    have bV : Below w1.heap.size w1 V2 := by rw [hV2]; exact ((Below.refl _ _).alloc (Nat.le_refl _) _).alloc (by simp) _
    have eW : W2 = V2.alloc (.cells #[.int .i64 k3, .int .i64 n3, .string s3, .slice av3 lv3 cv3] 26) := by rw [hW2, hV2]
    have bVW : Below V2.heap.size V2 W2 := by rw [eW]; exact (Below.refl _ _).alloc (Nat.le_refl _) _
    have nC : W2.heap[w1.heap.size + 1 + 1]? = some (.cells #[.int .i64 k3, .int .i64 n3, .string s3, .slice av3 lv3 cv3] 26 (0, 0)) := by rw [eW, ← zV]; exact heap_alloc_new V2 _
    have nA' := (bVW.block _ (by omega)).trans nA
    have nB' := (bVW.block _ (by omega)).trans nB
    have hbA : Below w1.heap.size w1 W2 := bV.trans (bVW.mono bV.size)
    have HX : Hid (∀ V : World, Below W2.heap.size W2 V → (V.cell? ⟨w1.heap.size, 0, none⟩ = some (.int .i64 k) ∧ V.cell? ⟨w1.heap.size, 1, none⟩ = some (.int .i64 n) ∧ V.cell? ⟨w1.heap.size, 2, none⟩ = some (.string s) ∧ V.cell? ⟨w1.heap.size, 3, none⟩ = some (.slice av lv cv)) ∧
        (V.cell? ⟨w1.heap.size + 1, 0, none⟩ = some (.int .i64 k2) ∧ V.cell? ⟨w1.heap.size + 1, 1, none⟩ = some (.int .i64 n2) ∧ V.cell? ⟨w1.heap.size + 1, 2, none⟩ = some (.string s2) ∧ V.cell? ⟨w1.heap.size + 1, 3, none⟩ = some (.slice av2 lv2 cv2)) ∧
        (V.cell? ⟨w1.heap.size + 1 + 1, 0, none⟩ = some (.int .i64 k3) ∧ V.cell? ⟨w1.heap.size + 1 + 1, 1, none⟩ = some (.int .i64 n3) ∧ V.cell? ⟨w1.heap.size + 1 + 1, 2, none⟩ = some (.string s3) ∧ V.cell? ⟨w1.heap.size + 1 + 1, 3, none⟩ = some (.slice av3 lv3 cv3))) := fun V hV => by
      obtain ⟨p0, p1, p2, p3, _⟩ := four_cells ((hV.block _ (lt_of_row' nA')).trans nA')
      obtain ⟨q0, q1, q2, q3, _⟩ := four_cells ((hV.block _ (lt_of_row' nB')).trans nB')
      obtain ⟨r0, r1, r2, r3, _⟩ := four_cells ((hV.block _ (lt_of_row' nC)).trans nC)
      exact ⟨⟨p0, p1, p2, p3⟩, ⟨q0, q1, q2, q3⟩, ⟨r0, r1, r2, r3⟩⟩
    obtain ⟨x, hx⟩ := bool_of (Lt 3 (mk k n s ts) (mk k2 n2 s2 us))
    obtain ⟨y, hy⟩ := bool_of (Lt 3 (mk k2 n2 s2 us) (mk k n s ts))
    obtain ⟨z, hz⟩ := bool_of (mk k n s ts = mk k2 n2 s2 us)
    obtain ⟨u, hu⟩ := bool_of (Lt 3 (mk k2 n2 s2 us) (mk k3 n3 s3 vs))
    obtain ⟨v, hv⟩ := bool_of (Lt 3 (mk k n s ts) (mk k3 n3 s3 vs))
    have hst := stands (sm3_ok m1) (sm3_ok m2) (sm3_ok m3) hx hy hz hu hv
    have r1 := o1.rd.later hbA
    have r2 := o2.rd.later hbA
    have r3 := o3.rd.later hbA
    have H12 : Hid (∀ V : World, Below W2.heap.size W2 V → _) := fun V hV => less3 (r1.later hV) (r2.later hV) m1 m2 x hx
    have H21 : Hid (∀ V : World, Below W2.heap.size W2 V → _) := fun V hV => less3 (r2.later hV) (r1.later hV) m2 m1 y hy
    have HSM : Hid (∀ V : World, Below W2.heap.size W2 V → _) := fun V hV => same3 (r1.later hV) (r2.later hV) m1 m2 z hz
    have HSL : Hid (∀ V : World, Below W2.heap.size W2 V → _) := fun V hV => sless3 (r1.later hV) (r2.later hV) g1 g2 x hx
    have H23 : Hid (∀ V : World, Below W2.heap.size W2 V → _) := fun V hV => less3 (r2.later hV) (r3.later hV) m2 m3 u hu
    have H13 : Hid (∀ V : World, Below W2.heap.size W2 V → _) := fun V hV => less3 (r1.later hV) (r3.later hV) m1 m3 v hv
    have hC := H12.out W2 (Below.refl _ _)
    rw [hW2] at hC
    have HW2 : Hid (W2 = _) := hW2
    have HBW : Hid (Below w.heap.size w W2) := hb1.trans (hbA.mono hb1.size)
    clear hW2 hV2 nA nB zV bV eW bVW nC nA' nB' hbA hx hy hz hu hv r1 r2 r3 o1 o2 o3 g1 g2 g3 m1 m2 m3 hb1 HP
    go_wp2_with fail
    refine hC.mono ?_
    clear hC
    rintro e w3 ⟨rfl, b3⟩
    rw [← HW2.out] at b3
    have B3 : Hid (Below W2.heap.size W2 w3) := b3
    obtain ⟨⟨p0, p1, p2, p3⟩, ⟨q0, q1, q2, q3⟩, ⟨t0, t1, t2, t3⟩⟩ := HX.out w3 b3
    clear b3
    go_wp2_with fail
    refine (H21.out w3 B3.out).mono ?_
    clear p0 p1 p2 p3 q0 q1 q2 q3 t0 t1 t2 t3
    rintro e w4 ⟨rfl, b4⟩
    have B4 : Hid (Below W2.heap.size W2 w4) := B3.out.trans (b4.mono B3.out.size)
    obtain ⟨⟨p0, p1, p2, p3⟩, ⟨q0, q1, q2, q3⟩, ⟨t0, t1, t2, t3⟩⟩ := HX.out w4 B4.out
    clear b4 B3 H12 H21
    rcases hst with ⟨rfl, rfl, rfl, hst⟩ | ⟨rfl, rfl, rfl⟩ | ⟨rfl, rfl, rfl⟩
    all_goals
      go_wp2_with fail
      refine (HSM.out w4 B4.out).mono ?_
      clear p0 p1 p2 p3 q0 q1 q2 q3 t0 t1 t2 t3
      rintro e w5 ⟨rfl, b5⟩
      have B5 : Hid (Below W2.heap.size W2 w5) := B4.out.trans (b5.mono B4.out.size)
      obtain ⟨⟨p0, p1, p2, p3⟩, ⟨q0, q1, q2, q3⟩, ⟨t0, t1, t2, t3⟩⟩ := HX.out w5 B5.out
      clear b5 B4 HSM
      go_wp2_with fail
      refine (HSL.out w5 B5.out).mono ?_
      clear p0 p1 p2 p3 q0 q1 q2 q3 t0 t1 t2 t3
      rintro e w6 ⟨rfl, b6⟩
      have B6 : Hid (Below W2.heap.size W2 w6) := B5.out.trans (b6.mono B5.out.size)
      obtain ⟨⟨p0, p1, p2, p3⟩, ⟨q0, q1, q2, q3⟩, ⟨t0, t1, t2, t3⟩⟩ := HX.out w6 B6.out
      clear b6 B5 HSL
    · go_wp2_with fail
      refine (H23.out w6 B6.out).mono ?_
      clear p0 p1 p2 p3 q0 q1 q2 q3 t0 t1 t2 t3
      rintro e w7 ⟨rfl, b7⟩
      have B7 : Hid (Below W2.heap.size W2 w7) := B6.out.trans (b7.mono B6.out.size)
      obtain ⟨⟨p0, p1, p2, p3⟩, ⟨q0, q1, q2, q3⟩, ⟨t0, t1, t2, t3⟩⟩ := HX.out w7 B7.out
      clear b7 B6 H23
      rcases hst with rfl | ⟨rfl, rfl⟩
      · go_wp2_with fail
        go_ret
        exact ⟨rfl, HBW.out.trans (B7.out.mono HBW.out.size)⟩
      · go_wp2_with fail
        refine (H13.out w7 B7.out).mono ?_
        clear p0 p1 p2 p3 q0 q1 q2 q3 t0 t1 t2 t3
        rintro e w8 ⟨rfl, b8⟩
        have B8 : Hid (Below W2.heap.size W2 w8) := B7.out.trans (b8.mono B7.out.size)
        clear b8
        go_wp2_with fail
        go_ret
        exact ⟨rfl, HBW.out.trans (B8.out.mono HBW.out.size)⟩
    · go_wp2_with fail
      go_ret
      exact ⟨rfl, HBW.out.trans (B6.out.mono HBW.out.size)⟩
    · go_wp2_with fail
      go_ret
      exact ⟨rfl, HBW.out.trans (B6.out.mono HBW.out.size)⟩

set_option maxRecDepth 100000 in
theorem lifted (os : Os) (started : os.Started) (H : Type) (enc : TypeId × Value → H) :
    ReturnsInHanded {} Try.checked os 4 .any (Rows.fnOrderSpec.pre6 enc Try.prog Try.f4 Rows.fnOrderRow.domain false) (Rows.fnOrderSpec.post enc Try.prog Try.f4 false true false false) := by
  refine returnsInHanded_of_change (C := Try.checked) own started (by kernel_rfl) Try.func4
    (ChangeSpec.witness6 (enc := enc) (C := Try.checked) false ⟨#[], #[.slice none 0 0], []⟩ 8 (by kernel_rfl) (by kernel_rfl) (by kernel_rfl) (by kernel_rfl)) ?_
  intro W base args ds gs before hval0 hW hcnd _
  have hval : ∀ (j : Nat) t v, Try.f4.params[j]? = some t → args[j]? = some v → Value.okWide Try.prog W .any base t v := hval0
  have hW' := hW
  obtain ⟨p, q, hA0, hV, rfl, hfz, hnd⟩ := hW
  have hA : DataW.TrodAll enc Try.prog W 0 (fun _ => true) true Try.f4.params.toList args.toList ds p := hA0
  rw [Try.params4] at hA hval
  obtain ⟨v0, vs0, d0, ds0, p0, q0, hargs, rfl, rfl, h0, rr0⟩ := trodAll_cons hA
  obtain ⟨rfl, rfl, rfl⟩ := trodAll_nil rr0
  obtain rfl : args = #[v0] := by cases args; simp_all
  obtain ⟨rfl, rfl⟩ := trodVars_none hV
  obtain ⟨a0, len0, cap0, rfl⟩ := okWide_slice Try.underlying22 (hval 0 22 v0 rfl rfl)
  have k0 := h0
  have lt0 : ∀ x ∈ p0, x.block < W.heap.size := by obtain ⟨m, hm⟩ := k0; exact DataW.trod_lt m _ _ _ hm
  obtain ⟨z0, w0⟩ : ∃ zs, IsRow .u8 W a0 len0 cap0 zs := by
    obtain ⟨fuel, hf⟩ := h0
    rcases open_ints Try.underlying22 Try.underlying5 (by kernel_rfl) hf with ⟨hcs, _⟩ | ⟨x, l, c, zs, hcs, _, hl, hm, hz, _, hcell, hwz⟩
    · simp [Value.cells] at hcs
      obtain ⟨rfl, rfl, rfl⟩ := hcs
      exact ⟨[], .inl ⟨rfl, rfl, rfl, rfl⟩⟩
    · simp [Value.cells] at hcs
      obtain ⟨rfl, rfl, rfl⟩ := hcs
      exact ⟨zs, .inr ⟨_, rfl, hl, hm, by simpa using hz, hcell, hwz⟩⟩

  clear hA0 hval0
  refine (walk W a0 len0 cap0 z0 w0).mono fun e W' ⟨he, bel⟩ => ?_
  subst he
  exact ⟨_, rfl, _, _, _, [], _, [], hW', trodAll_mk1 (shut_bool Try.underlying4 _), (trodAll_cons_mk (Below.trod laidOut (by kernel_rfl) (of_decide_eq_true (by kernel_rfl)) k0 bel lt0) trodAll_mk0), rfl, bel.frame _, fun h => by cases h⟩

theorem over : Rows.fnOrderRow.holds Try.pinned (OpenSpec.ofChange Rows.fnOrderSpec) :=
  OpenClaim.holds_of_wide 4 Try.f4 rfl rfl rfl rfl rfl rfl rfl ⟨rfl, rfl, rfl, rfl, rfl⟩ rfl rfl rfl rfl rfl (by kernel_rfl) Try.func4 (by kernel_rfl)
    (of_decide_eq_true (by kernel_rfl)) (by unfold Func.isWrapper; first | (rw [if_pos (by decide +kernel)]; kernel_rfl) | (rw [if_neg (by decide +kernel)]; exact ⟨rfl, rfl⟩))
    (fun os started H enc _ => lifted os started H enc)

end Go.Proofs.Ytbllnmafilabpaa.fnOrder
namespace Go.Proofs.Ytbllnmafilabpaa
/-- THE STATEMENT. -/
theorem fnOrder_said : Rows.FnOrderSaid := fnOrder.over
#print axioms fnOrder_said
end Go.Proofs.Ytbllnmafilabpaa
