/- What is told of a drawn term to be sent is as many as it has, in order, whatever the bytes it is drawn of: no condition. (The frame round the walk is the guide's own way.) -/
import Derived.Test.YtegfbpidlopfoaaDz2M
import Derived.WalkKit
import Derived.Deep.DeepCutAuto
import Derived.Deep.RegionHeld3
import Derived.Deep.RegionHeldLaw
import Derived.ProofKit
import Derived.OpenShut
import Derived.ShutString
import Derived.ChangeOld
import Derived.Below
namespace Go.Proofs.Ytegfbpidlopfoaa.fnSends
open Go.ChangeShapes Go.WideShapes Go.ChangeAt Go.RowKit
open Go.ChangeMaps (open_string shut_string)
set_option linter.unusedVariables false

theorem own : ownKnob Try.prog.godebug = none := by kernel_rfl
theorem laidOut : laidOutB Try.prog = true := by kernel_rfl

set_option maxRecDepth 100000 in
set_option maxHeartbeats 8000000 in
theorem walk (w : World) (a0 : Option Addr) (len0 cap0 : Nat) (z0 : List Int) (w0 : IsRow .u8 w a0 len0 cap0 z0) :
    Calls Try.prog 3 #[.slice a0 len0 cap0] w fun e w' => e = .returned (.bool true) ∧ Below w.heap.size w w' := by
  by_cases hbig : 1048576 < len0
  · go_enter Try.func3, Try.ntmps3
    go_wp2_with fail
    refine (big_yes a0 len0 cap0 w hbig).mono ?_
    rintro e w' ⟨rfl, rfl⟩
    go_wp2
    go_ret
    exact ⟨rfl, Below.refl _ _⟩
  have hm : len0 ≤ 1048576 := by omega
  have hD := drawSends_any a0 len0 cap0 z0 w w0 hm
  clear w0
  go_enter Try.func3, Try.ntmps3
  go_wp2_with fail
  refine (big_no a0 len0 cap0 w hm).mono ?_
  rintro e w' ⟨rfl, rfl⟩
  go_wp2_with fail
  refine hD.mono ?_
  clear hD
  rintro e w1 ⟨k, av, l, c, ts, fp, rfl, HT, hb1⟩
  obtain ⟨X, hX⟩ : ∃ X, w1.heap.size = X := ⟨_, rfl⟩
  obtain ⟨W1, hW1⟩ : ∃ W, W = w1.alloc (.cells #[.int .i64 k, .int .i64 0, .string ⟨#[]⟩, .slice av l c] 26) := ⟨_, rfl⟩
  have hA1 : Below w1.heap.size w1 W1 := by rw [hW1]; exact (Below.refl _ _).alloc (Nat.le_refl _) _
  have nX : W1.heap[X]? = some (.cells #[.int .i64 k, .int .i64 0, .string ⟨#[]⟩, .slice av l c] 26 (0, 0)) := by rw [hW1, ← hX]; exact heap_alloc_new w1 _
  have hO1 : OwnL 3 W1 (.slice av l c) ts fp := HT.out.2.2.2.1.frame fun g hg => hA1.block g (HT.out.2.2.2.2.1.2 g hg).2
  have hI := implSendsOf_any 1 k 0 ⟨#[]⟩ av l c ts W1 hO1.rdq hO1.rd HT.out.2.2.2.2.2.1 HT.out.2.1 (by have h1 := cnt_few3 ts HT.out.2.2.2.2.2.2; have := HT.out.2.1; have := HT.out.2.2.1; exact Nat.le_trans h1 (by omega))
  rw [hW1] at hI
  have HB1 : Hid (Below w.heap.size w W1 ∧ W1.heap[X]? = some (.cells #[.int .i64 k, .int .i64 0, .string ⟨#[]⟩, .slice av l c] 26 (0, 0)) ∧ OwnL 3 W1 (.slice av l c) ts fp) := ⟨hb1.trans (hA1.mono hb1.size), nX, hO1⟩
  have HW1 : Hid (W1 = _) := hW1
  have hl4 : l ≤ 4 := HT.out.2.2.1
  clear hb1 hW1 hA1 nX hO1
  go_wp2_with fail
  refine hI.mono ?_
  clear hI
  rw [← HW1.out]
  rintro e w2 ⟨ar, n, cr, ok, sl, fs, rfl, HS, hb2⟩
  have hS := specSendsOf_any 1 k 0 ⟨#[]⟩ av l c ts w2 (HB1.out.2.2.rd.later hb2) HT.out.2.2.2.2.2.1 (few3 HT.out.2.2.2.2.2.2 (by have := HT.out.2.1; omega)) HT.out.2.1 (by omega)
  have hX2 := (hb2.block _ (lt_row HB1.out.2.1)).trans HB1.out.2.1
  have i0 : w2.cell? ⟨X, 0, none⟩ = some (.int .i64 k) := by rw [cell_of_row w2 _ 0 _ _ _ hX2]; rfl
  have i1 : w2.cell? ⟨X, 1, none⟩ = some (.int .i64 0) := by rw [cell_of_row w2 _ 1 _ _ _ hX2]; rfl
  have i2 : w2.cell? ⟨X, 2, none⟩ = some (.string ⟨#[]⟩) := by rw [cell_of_row w2 _ 2 _ _ _ hX2]; rfl
  have i3 : w2.cell? ⟨X, 3, none⟩ = some (.slice av l c) := by rw [cell_of_row w2 _ 3 _ _ _ hX2]; rfl
  have HB2 : Hid (Below W1.heap.size W1 w2) := hb2
  clear hb2 hX2 HW1
  go_wp2_with fail
  refine hS.mono ?_
  clear hS i0 i1 i2 i3
  rintro e w3 ⟨as', n', cs, ok', sl', rfl, HS', hb3⟩
  obtain ⟨rfl, rfl⟩ := SendsT.same HS.out.1 HS'.out.1
  have HB3 : Hid (Below w2.heap.size w2 w3) := hb3
  have HBw : Hid (Below w.heap.size w w3) := HB1.out.1.trans ((HB2.out.trans (hb3.mono HB2.out.size)).mono HB1.out.1.size)
  have HX3 : Hid (w3.heap[X]? = some (.cells #[.int .i64 k, .int .i64 0, .string ⟨#[]⟩, .slice av l c] 26 (0, 0))) := (hb3.block _ (Nat.lt_of_lt_of_le (lt_row HB1.out.2.1) HB2.out.size)).trans ((HB2.out.block _ (lt_row HB1.out.2.1)).trans HB1.out.2.1)
  clear hb3 HS'
  cases ok with
  | false =>
    have hn0 : n = 0 := by
      rcases HS.out.1 with ⟨e, _⟩ | ⟨_, _, e⟩
      · cases e
      · have := HS.out.2.2.2; rw [e] at this; simpa using this.symm
    subst hn0
    go_wp2_with fail
    go_ret
    exact ⟨rfl, HBw.out⟩
  | true =>
    have HE : Hid (k = 5 ∧ (∀ x ∈ ts, ¬ NoS 1 x) ∧ sl = ts.map (sendOf 1)) := by
      rcases HS.out.1 with ⟨_, e⟩ | ⟨e, _⟩
      · exact e
      · cases e
    have hnl : n = l := by
      have h1 := HS.out.2.2.2
      have h2 := HT.out.2.1
      rw [HE.out.2.2, List.length_map] at h1
      omega
    subst hnl
    have hk5 := HE.out.1
    subst hk5
    have HR : Hid (RdL 3 w3 (.slice av n c) ts ∧ RowOf 8 (SendR 1) w3 (.slice ar n cr) (ts.map (sendOf 1)) ∧ w3.heap[X]? = some (.cells #[.int .i64 5, .int .i64 0, .string ⟨#[]⟩, .slice av n c] 26 (0, 0)) ∧ (∀ x ∈ ts, ¬ NoS 1 x) ∧ (∀ x ∈ ts, SmT 3 x) ∧ ts.length = n) := by
      refine ⟨(HB1.out.2.2.rd.later HB2.out).later HB3.out, ?_, HX3.out, HE.out.2.1, HT.out.2.2.2.2.2.2, HT.out.2.1⟩
      have h1 := (HS.out.2.1.rd (SendO.reads 1)).later (SendR.lasts 1) HB3.out
      rw [HE.out.2.2] at h1
      exact h1
    clear HE HT HS HB1 HB2 HB3 HX3
    go_wp2_with fail
    go_loopw [8] (fun vi wr => ∃ j : Nat, j ≤ n ∧ vi = .int .i64 j ∧ Hid (Below w3.heap.size w3 wr)) (fun vi _ => n - (intOf vi).toNat)
    case atStart => exact ⟨0, Nat.zero_le _, rfl, Below.refl _ _⟩
    case round =>
      obtain ⟨j, hj, rfl, HBr⟩ := hrel
      have hXr := (HBr.out.block _ (lt_row HR.out.2.2.1)).trans HR.out.2.2.1
      by_cases hjl : j < n
      · obtain ⟨g, o, g2, o2, la, lc, k1, n1, s1, a1, l1, c1, k2, n2, s2, a2, l2, c2, C, rfl, rfl, f1, f2, f3, hC300, hRO⟩ := sd_at (HR.out.1.later HBr.out) (HR.out.2.1.later (SendR.lasts 1) HBr.out) HR.out.2.2.2.1 HR.out.2.2.2.2.1 HR.out.2.2.2.2.2 hjl
        have HC := sameTerm_root 4 0 ⟨#[]⟩ la (some ⟨wr.heap.size, 0, none⟩) 2 lc 2 C (wr.alloc (.cells #[.int .i64 k1, .int .i64 n1, .string s1, .slice a1 l1 c1, .int .i64 k2, .int .i64 n2, .string s2, .slice a2 l2 c2] 26)).drew ((hRO wr (Below.refl _ _)).later (Below.refl _ _).drew) hC300
        have HSK : Hid (∀ V : World, Below wr.heap.size wr V → V.cell? ⟨X, 3, none⟩ = some (.slice (some ⟨g, o, none⟩) n c) ∧ V.cell? ⟨g, o + j * 4, none⟩ = some (.int .i64 4) ∧ V.cell? ⟨g, o + j * 4 + 1, none⟩ = some (.int .i64 0) ∧ V.cell? ⟨g, o + j * 4 + 2, none⟩ = some (.string ⟨#[]⟩) ∧ V.cell? ⟨g, o + j * 4 + 3, none⟩ = some (.slice la 2 lc) ∧ V.cell? ⟨g2, o2 + j * 8, none⟩ = some (.int .i64 k1) ∧ V.cell? ⟨g2, o2 + j * 8 + 1, none⟩ = some (.int .i64 n1) ∧ V.cell? ⟨g2, o2 + j * 8 + 2, none⟩ = some (.string s1) ∧ V.cell? ⟨g2, o2 + j * 8 + 3, none⟩ = some (.slice a1 l1 c1) ∧ V.cell? ⟨g2, o2 + j * 8 + 4, none⟩ = some (.int .i64 k2) ∧ V.cell? ⟨g2, o2 + j * 8 + 4 + 1, none⟩ = some (.int .i64 n2) ∧ V.cell? ⟨g2, o2 + j * 8 + 4 + 2, none⟩ = some (.string s2) ∧ V.cell? ⟨g2, o2 + j * 8 + 4 + 3, none⟩ = some (.slice a2 l2 c2)) := fun V hV => by
          have hX := (hV.block _ (lt_row hXr)).trans hXr
          have g1' := f1.later hV
          have g2' := f2.later hV
          have g3' := f3.later hV
          exact ⟨by rw [cell_of_row V _ 3 _ _ _ hX]; rfl, g1'.1, g1'.2.1, g1'.2.2.1, g1'.2.2.2, g2'.1, g2'.2.1, g2'.2.2.1, g2'.2.2.2, g3'.1, g3'.2.1, g3'.2.2.1, g3'.2.2.2⟩
        have hY : Below wr.heap.size wr wr.drew := (Below.refl _ _).drew
        have hY2 : Below wr.heap.size wr (wr.alloc (.cells #[.int .i64 k1, .int .i64 n1, .string s1, .slice a1 l1 c1, .int .i64 k2, .int .i64 n2, .string s2, .slice a2 l2 c2] 26)).drew := ((Below.refl _ _).alloc (Nat.le_refl _) _).drew
        clear f1 f2 f3 hRO hC300 hXr
        go_wp2_with fail
        go_region_held3 (fun V => V.cell? ⟨X, 3, none⟩ = some (.slice (some ⟨g, o, none⟩) n c) ∧ V.cell? ⟨g, o + j * 4, none⟩ = some (.int .i64 4) ∧ V.cell? ⟨g, o + j * 4 + 1, none⟩ = some (.int .i64 0) ∧ V.cell? ⟨g, o + j * 4 + 2, none⟩ = some (.string ⟨#[]⟩) ∧ V.cell? ⟨g, o + j * 4 + 3, none⟩ = some (.slice la 2 lc) ∧ V.cell? ⟨g2, o2 + j * 8, none⟩ = some (.int .i64 k1) ∧ V.cell? ⟨g2, o2 + j * 8 + 1, none⟩ = some (.int .i64 n1) ∧ V.cell? ⟨g2, o2 + j * 8 + 2, none⟩ = some (.string s1) ∧ V.cell? ⟨g2, o2 + j * 8 + 3, none⟩ = some (.slice a1 l1 c1) ∧ V.cell? ⟨g2, o2 + j * 8 + 4, none⟩ = some (.int .i64 k2) ∧ V.cell? ⟨g2, o2 + j * 8 + 4 + 1, none⟩ = some (.int .i64 n2) ∧ V.cell? ⟨g2, o2 + j * 8 + 4 + 2, none⟩ = some (.string s2) ∧ V.cell? ⟨g2, o2 + j * 8 + 4 + 3, none⟩ = some (.slice a2 l2 c2)) (first | (with_reducible exact HSK.out _ hY3) | (with_reducible exact HSK.out _ hY) | (with_reducible exact HSK.out _ hY2)) (first
          | (go_at_call 8; (with_reducible refine HC.mono ?_); rintro e w' ⟨rfl, hb'⟩; have hY3 : Below wr.heap.size wr w' := hY2.trans (hb'.mono hY2.size)))
        all_goals
          go_wp2_with fail
          go_roundw
          case rel => exact ⟨j + 1, by omega, by go_num, HBr.out.trans (hY3.mono HBr.out.size)⟩
          case measure => simp [intOf]; omega
      · obtain rfl : n = j := by omega
        have hjl' : decide ((n : Int) < (n : Int)) = false := by simp
        have i0 : wr.cell? ⟨X, 0, none⟩ = some (.int .i64 5) := by rw [cell_of_row wr _ 0 _ _ _ hXr]; rfl
        have i3 : wr.cell? ⟨X, 3, none⟩ = some (.slice av n c) := by rw [cell_of_row wr _ 3 _ _ _ hXr]; rfl
        have HF : Hid (Below w.heap.size w wr) := HBw.out.trans (HBr.out.mono HBw.out.size)
        clear hXr HBr HR
        go_wp2_with fail
        go_ret
        exact ⟨rfl, HF.out⟩

set_option maxRecDepth 100000 in
theorem lifted (os : Os) (started : os.Started) (H : Type) (enc : TypeId × Value → H) :
    ReturnsInHanded {} Try.checked os 3 .any (Rows.fnSendsSpec.pre6 enc Try.prog Try.f3 Rows.fnSendsRow.domain false) (Rows.fnSendsSpec.post enc Try.prog Try.f3 false true false false) := by
  refine returnsInHanded_of_change (C := Try.checked) own started (by kernel_rfl) Try.func3
    (ChangeSpec.witness6 (enc := enc) (C := Try.checked) false ⟨#[], #[.slice none 0 0], []⟩ 8 (by kernel_rfl) (by kernel_rfl) (by kernel_rfl) (by kernel_rfl)) ?_
  intro W base args ds gs before hval0 hW hcnd _
  have hval : ∀ (j : Nat) t v, Try.f3.params[j]? = some t → args[j]? = some v → Value.okWide Try.prog W .any base t v := hval0
  have hW' := hW
  obtain ⟨p, q, hA0, hV, rfl, hfz, hnd⟩ := hW
  have hA : DataW.TrodAll enc Try.prog W 0 (fun _ => true) true Try.f3.params.toList args.toList ds p := hA0
  rw [Try.params3] at hA hval
  obtain ⟨v0, vs0, d0, ds0, p0, q0, hargs, rfl, rfl, h0, rr0⟩ := trodAll_cons hA
  obtain ⟨rfl, rfl, rfl⟩ := trodAll_nil rr0
  obtain rfl : args = #[v0] := by cases args; simp_all
  obtain ⟨rfl, rfl⟩ := trodVars_none hV
  obtain ⟨a0, len0, cap0, rfl⟩ := okWide_slice Try.underlying22 (hval 0 22 v0 rfl rfl)
  have k0 := h0
  have lt0 : ∀ x ∈ p0, x.block < W.heap.size := by obtain ⟨m, hm⟩ := k0; exact DataW.trod_lt m _ _ _ hm
  obtain ⟨z0, w0⟩ : ∃ zs, IsRow .u8 W a0 len0 cap0 zs := by
    obtain ⟨fuel, hf⟩ := h0
    rcases open_ints Try.underlying22 Try.underlying5 (by kernel_rfl) hf with ⟨hcs, _⟩ | ⟨x, l, c, zs, hcs, _, hl, hm, hz, _, hcell, hwz⟩
    · simp [Value.cells] at hcs
      obtain ⟨rfl, rfl, rfl⟩ := hcs
      exact ⟨[], .inl ⟨rfl, rfl, rfl, rfl⟩⟩
    · simp [Value.cells] at hcs
      obtain ⟨rfl, rfl, rfl⟩ := hcs
      exact ⟨zs, .inr ⟨_, rfl, hl, hm, by simpa using hz, hcell, hwz⟩⟩

  clear hA0 hval0
  refine (walk W a0 len0 cap0 z0 w0).mono fun e W' ⟨he, bel⟩ => ?_
  subst he
  exact ⟨_, rfl, _, _, _, [], _, [], hW', trodAll_mk1 (shut_bool Try.underlying4 _), (trodAll_cons_mk (Below.trod laidOut (by kernel_rfl) (of_decide_eq_true (by kernel_rfl)) k0 bel lt0) trodAll_mk0), rfl, bel.frame _, fun h => by cases h⟩

theorem over : Rows.fnSendsRow.holds Try.pinned (OpenSpec.ofChange Rows.fnSendsSpec) :=
  OpenClaim.holds_of_wide 3 Try.f3 rfl rfl rfl rfl rfl rfl rfl ⟨rfl, rfl, rfl, rfl, rfl⟩ rfl rfl rfl rfl rfl (by kernel_rfl) Try.func3 (by kernel_rfl)
    (of_decide_eq_true (by kernel_rfl)) (by unfold Func.isWrapper; first | (rw [if_pos (by decide +kernel)]; kernel_rfl) | (rw [if_neg (by decide +kernel)]; exact ⟨rfl, rfl⟩))
    (fun os started H enc _ => lifted os started H enc)

end Go.Proofs.Ytegfbpidlopfoaa.fnSends
namespace Go.Proofs.Ytegfbpidlopfoaa
/-- THE STATEMENT. -/
theorem fnSends_said : Rows.FnSendsSaid := fnSends.over
#print axioms fnSends_said
end Go.Proofs.Ytegfbpidlopfoaa
