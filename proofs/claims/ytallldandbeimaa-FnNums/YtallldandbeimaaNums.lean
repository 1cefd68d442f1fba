/- Of every row of bytes the draws of a number and of a text come back of the bytes that the program puts for them, and the number cut by its last byte does not; no condition. (The frame round the walk is the guide's, by its own program.) -/
import Derived.Test.YtallldandbeimaaBig
import Derived.WalkKit
import Derived.ProofKit
import Derived.OpenShut
import Derived.ShutString
import Derived.ChangeOld
import Derived.Below
namespace Go.Proofs.Ytallldandbeimaa.fnNums
open Go.ChangeShapes Go.WideShapes Go.ChangeAt Go.RowKit
open Go.ChangeMaps (open_string shut_string)
set_option linter.unusedVariables false

theorem own : ownKnob Try.prog.godebug = none := by kernel_rfl
theorem laidOut : laidOutB Try.prog = true := by kernel_rfl

/-! ### STEP 1: THE WALK: the Go text returns true, AND WRITES NOTHING THAT WAS THERE: 'Below w.heap.size w w'' (Derived/Below.lean: '.refl', '.alloc', '.drew', '.setCell' at a new block, '.trans'). Open each 'IsRow' by 'rcases' AHEAD of 'go_enter'; part every test ahead of the walk. -/
set_option maxHeartbeats 1000000 in
theorem walk (a0 : Option Addr) (len0 cap0 : Nat) (z0 : List Int) (w : World) (w0 : IsRow .u8 w a0 len0 cap0 z0) :
    Calls Try.prog 3 #[.slice a0 len0 cap0] w fun e w' => e = .returned (.bool true) ∧ Below w.heap.size w w' := by
  by_cases hbig : 1048576 < len0
  · go_enter Try.func3, Try.ntmps3
    go_wp2_with fail
    refine (big_yes a0 len0 cap0 w hbig).mono ?_
    rintro e w' ⟨rfl, rfl⟩
    go_wp2
    go_ret
    exact ⟨rfl, Below.refl _ _⟩
  · have hm : len0 ≤ 1048576 := by omega
    have Hrow : Hid (IsRow .u8 w a0 len0 cap0 z0) := w0
    have hD := drawPutNum_any a0 len0 cap0 z0 w w0 hm
    clear w0
    go_enter Try.func3, Try.ntmps3
    go_wp2_with fail
    refine (big_no a0 len0 cap0 w hm).mono ?_
    rintro e w' ⟨rfl, rfl⟩
    go_wp2_with fail
    refine hD.mono ?_
    clear hD
    rintro e w1 ⟨g, c, xs, N, rfl, hl9, hrng, ⟨hN0, hN1⟩, own1, bel1⟩
    obtain ⟨n, hn⟩ : ∃ n, xs.length = n := ⟨_, rfl⟩
    have HN : Hid (xs.length = n) := hn
    rw [hn] at hl9 own1 ⊢
    clear hn
    obtain ⟨ys, hys⟩ : ∃ ys, xs ++ enc (code N) = ys := ⟨_, rfl⟩
    have HYS : Hid (xs ++ enc (code N) = ys) := hys
    obtain ⟨M, hM⟩ : ∃ M, ys.length = M + 1 := ⟨ys.length - 1, by have := enc_len_pos (code N); rw [← hys, List.length_append]; omega⟩
    have hMb : M ≤ 15 := by
      have := enc_len6 (code N) (by have := code_bd N; omega)
      have h2 := HN.out
      rw [← hys, List.length_append] at hM; omega
    have HM : Hid (ys.length = M + 1) := hM
    have hyr : ∀ x ∈ ys, 0 ≤ x ∧ x ≤ 255 := by rw [← hys]; exact mem_app hrng (enc_byte _ (code_bd N).1)
    obtain ⟨X, hX⟩ : ∃ X, clamp N = X := ⟨_, rfl⟩
    have HX : Hid (clamp N = X) := hX
    have HG : Hid (getNum ys n = (X, (M : Int) + 1, true)) := by
      have h1 := getNum_put xs [] N
      rw [List.append_nil, hys, HN.out] at h1
      show _ = _
      rw [h1, ← hn_len xs ys N n M hys HN.out hM, hX]
    have HCUT : Hid ((getNum ys.dropLast n).2.2 = false) := by rw [← hys, ← HN.out]; exact getNum_cut xs N
    clear hys hM hrng hX
    go_wp2_with fail
    refine (implPutNum_row (some ⟨g, 0, none⟩) n c xs N w1 (own_rd own1) (by omega) hN0 hN1 ys HYS.out (M + 1) HM.out).mono ?_
    rintro e w2 ⟨g2, c2, rfl, hg2, own2, bel2⟩
    have hcap := own_cap own2
    have bel12 := bel1.trans (bel2.mono bel1.size)
    clear bel1 bel2 own1 hg2
    go_wp2_with fail
    refine (getNum_here g2 0 (M + 1) c2 n ys w2 HM.out (by omega) (own_cells own2) hyr _ HG.out).mono ?_
    rintro e w' ⟨rfl, rfl⟩
    go_wp2_with fail
    all_goals
      have hXe : (X = 1000000000000 ∧ 1000000000000 < N) ∨ (X = -1000000000000 ∧ N < -1000000000000) ∨ (X = N ∧ N ≤ 1000000000000 ∧ -1000000000000 ≤ N) := by
        rw [← HX.out]; exact clamp_ways N
      have hXX := hXe
      obtain ⟨⟨r0, r1, r2⟩, hr⟩ : ∃ r, getNum ys.dropLast n = r := ⟨_, rfl⟩
      obtain rfl : r2 = false := by have := HCUT.out; rw [hr] at this; exact this
      have hI := getNum_here g2 0 M c2 n ys.dropLast w2 (by rw [List.length_dropLast, HM.out]; rfl) (by omega) (cut_cells HM.out (own_cells own2)) (fun x hx => hyr x (List.dropLast_subset _ hx)) _ hr
      clear hr hXe hyr own2 HCUT HG
      refine hI.mono ?_
      clear hI
      rintro e w' ⟨rfl, rfl⟩
      go_wp2_with fail
      refine (drawPutText_any a0 len0 cap0 z0 w2 (Hrow.out.later bel12) hm).mono ?_
      rintro e w3 ⟨g3, c3, us, vs, rfl, hu9, hur, hv9, hvr, own3, bel3⟩
      obtain ⟨S, hS⟩ : ∃ S, strOfNums vs = S := ⟨_, rfl⟩
      have hSs : S.size ≤ 9 := by rw [← hS, strOfNums_size]; exact hv9
      rw [hS]
      obtain ⟨k, hk⟩ : ∃ k, us.length = k := ⟨_, rfl⟩
      have HK : Hid (us.length = k) := hk
      rw [hk] at hu9 own3 ⊢
      obtain ⟨qs, hqs⟩ : ∃ qs, us ++ put S = qs := ⟨_, rfl⟩
      obtain ⟨L, hL⟩ : ∃ L, qs.length = L := ⟨_, rfl⟩
      have HQS : Hid (us ++ put S = qs) := hqs
      have HL : Hid (qs.length = L) := hL
      have hLb : L ≤ 24 := by
        have := enc_len6 (code S.size) (by have := code_bd S.size; omega)
        have := nums_length S
        rw [← hL, ← hqs, List.length_append, put, List.length_append]; omega
      have hqr : ∀ x ∈ qs, 0 ≤ x ∧ x ≤ 255 := by rw [← hqs]; exact mem_app hur (mem_app (enc_byte _ (code_bd _).1) (nums_byte S))
      have HT : Hid (getText qs k = (nums S, (L : Int), true)) := by
        have h1 := getText_put us S (by omega)
        rw [hqs, hk, hL] at h1
        exact h1
      have bel13 := bel12.trans (bel3.mono bel12.size)
      clear hk hqs hL hS hur hvr bel12 bel3
      go_wp2_with fail
      refine (implPutText_row (some ⟨g3, 0, none⟩) k c3 us S w3 (own_rd own3) (by omega) (by omega) qs HQS.out L HL.out).mono ?_
      rintro e w4 ⟨g4, c4, rfl, hg4, own4, bel4⟩
      have hc4 := own_cap own4
      have bel14 := bel13.trans (bel4.mono bel13.size)
      have hT := getText_here g4 0 L c4 k qs w4 HL.out (by omega) hc4.1 (by have := hc4.2; unfold maxLen at this; omega) (own_cells own4) hqr S L true HT.out
      clear bel13 bel4 own3 own4 hqr HT
      go_wp2_with fail
      refine hT.mono ?_
      clear hT
      rintro e w' ⟨rfl, rfl⟩
      have hgoal : (X == 1000000000000) = true ∧ 1000000000000 < N ∨ (X == -1000000000000) = true ∧ N < -1000000000000 ∨ (X == N) = true ∧ N ≤ 1000000000000 ∧ -1000000000000 ≤ N := by
        simpa using hXX
      clear hXX
      rcases hgoal with ⟨hx, hx'⟩ | ⟨hx, hx'⟩ | ⟨hx, hx', hx''⟩
      all_goals first | (exfalso; omega) | skip
      go_wp2
      go_ret
      exact ⟨rfl, bel14⟩

/-! ### THE ROW's STEP: WRITTEN OUT: LEAVE IT -/
set_option maxRecDepth 100000 in
theorem lifted (os : Os) (started : os.Started) (H : Type) (enc : TypeId × Value → H) :
    ReturnsInHanded {} Try.checked os 3 .any (Rows.fnNumsSpec.pre6 enc Try.prog Try.f3 Rows.fnNumsRow.domain false) (Rows.fnNumsSpec.post enc Try.prog Try.f3 false true false false) := by
  refine returnsInHanded_of_change (C := Try.checked) own started (by kernel_rfl) Try.func3
    (ChangeSpec.witness6 (enc := enc) (C := Try.checked) false ⟨#[], #[.slice none 0 0], []⟩ 8 (by kernel_rfl) (by kernel_rfl) (by kernel_rfl) (by kernel_rfl)) ?_
  intro W base args ds gs before hval0 hW hcnd _
  have hval : ∀ (j : Nat) t v, Try.f3.params[j]? = some t → args[j]? = some v → Value.okWide Try.prog W .any base t v := hval0
  have hW' := hW
  obtain ⟨p, q, hA0, hV, rfl, hfz, hnd⟩ := hW
  have hA : DataW.TrodAll enc Try.prog W 0 (fun _ => true) true Try.f3.params.toList args.toList ds p := hA0
  rw [Try.params3] at hA hval
  obtain ⟨v0, vs0, d0, ds0, p0, q0, hargs, rfl, rfl, h0, r0⟩ := trodAll_cons hA
  obtain ⟨rfl, rfl, rfl⟩ := trodAll_nil r0
  obtain rfl : args = #[v0] := by cases args; simp_all
  obtain ⟨rfl, rfl⟩ := trodVars_none hV
  obtain ⟨a0, len0, cap0, rfl⟩ := okWide_slice Try.underlying22 (hval 0 22 v0 rfl rfl)
  have k0 := h0
  have lt0 : ∀ x ∈ p0, x.block < W.heap.size := by obtain ⟨m, hm⟩ := k0; exact DataW.trod_lt m _ _ _ hm
  obtain ⟨z0, w0⟩ : ∃ zs, IsRow .u8 W a0 len0 cap0 zs := by
    obtain ⟨fuel, hf⟩ := h0
    rcases open_ints Try.underlying22 Try.underlying5 (by kernel_rfl) hf with ⟨hcs, _⟩ | ⟨x, l, c, zs, hcs, _, hl, hm, hz, _, hcell, hwz⟩
    · simp [Value.cells] at hcs
      obtain ⟨rfl, rfl, rfl⟩ := hcs
      exact ⟨[], .inl ⟨rfl, rfl, rfl, rfl⟩⟩
    · simp [Value.cells] at hcs
      obtain ⟨rfl, rfl, rfl⟩ := hcs
      exact ⟨zs, .inr ⟨_, rfl, hl, hm, by simpa using hz, hcell, hwz⟩⟩
  clear hA0 hval0
  refine (walk a0 len0 cap0 z0 W w0).mono fun e W' ⟨he, bel⟩ => ?_
  subst he
  exact ⟨_, rfl, _, _, _, [], _, [], hW', trodAll_mk1 (shut_bool Try.underlying4 _), (trodAll_cons_mk (Below.trod laidOut (by kernel_rfl) (of_decide_eq_true (by kernel_rfl)) k0 bel lt0) trodAll_mk0), rfl, bel.frame _, fun h => by cases h⟩

theorem over : Rows.fnNumsRow.holds Try.pinned (OpenSpec.ofChange Rows.fnNumsSpec) :=
  OpenClaim.holds_of_wide 3 Try.f3 rfl rfl rfl rfl rfl rfl rfl ⟨rfl, rfl, rfl, rfl, rfl⟩ rfl rfl rfl rfl rfl (by kernel_rfl) Try.func3 (by kernel_rfl)
    (of_decide_eq_true (by kernel_rfl)) (by unfold Func.isWrapper; first | (rw [if_pos (by decide +kernel)]; kernel_rfl) | (rw [if_neg (by decide +kernel)]; exact ⟨rfl, rfl⟩))
    (fun os started H enc _ => lifted os started H enc)

end Go.Proofs.Ytallldandbeimaa.fnNums
namespace Go.Proofs.Ytallldandbeimaa
/-- THE STATEMENT. -/
theorem nums_holds : Rows.FnNumsSaid := fnNums.over
#print axioms nums_holds
end Go.Proofs.Ytallldandbeimaa
