/- What is read of a drawn text comes back joined; a remark and blanks more change nothing. No condition but that the library's table lies as its own text lays it (the card ties it). (The frame round the walk is the guide's own way.) -/
import Derived.Test.YtickaplokjdijaaDoorDrLx
import Derived.Test.YtickaplokjdijaaDoorBack2
import Derived.Test.YtickaplokjdijaaDoorRead
import Derived.Test.YtickaplokjdijaaDoorTie
import Derived.Test.YtickaplokjdijaaDoorCards
import Derived.WalkKit
import Derived.ProofKit
import Derived.LaidMore
import Derived.OpenShut
import Derived.ShutString
import Derived.ChangeOld
import Derived.Below
import Derived.Stop.Joined
import Derived.Stop.LaidErr
import Derived.SevenTiedAt
namespace Go.Proofs.YtickaplokjdijaaDoor.fnLexed
open Go.ChangeShapes Go.WideShapes Go.ChangeAt Go.RowKit
open Go.ChangeMaps (open_string shut_string)
set_option linter.unusedVariables false

theorem own : ownKnob Tryd.prog.godebug = none := by kernel_rfl
theorem laidOut : laidOutB Tryd.prog = true := by kernel_rfl

set_option maxHeartbeats 1000000 in
theorem walk (w : World) (htab : TabOk w) (a0 : Option Addr) (len0 cap0 : Nat) (z0 : List Int) (w0 : IsRow .u8 w a0 len0 cap0 z0) :
    Calls Tryd.prog 4 #[.slice a0 len0 cap0] w fun e w' => e = .returned (.bool true) ∧ Below w.heap.size w w' := by
  by_cases hbig : 1048576 < len0
  · go_enter Tryd.func4, Tryd.ntmps4
    go_wp2_with fail
    refine (big_yes a0 len0 cap0 w hbig).mono ?_
    rintro e w' ⟨rfl, rfl⟩
    go_wp2
    go_ret
    exact ⟨rfl, Below.refl _ _⟩
  · have hm : len0 ≤ 1048576 := by omega
    have HTB : Hid (TabOk w) := htab
    have hD := drawLex_any a0 len0 cap0 z0 w w0 hm
    clear w0 htab
    go_enter Tryd.func4, Tryd.ntmps4
    go_wp2_with fail
    refine (big_no a0 len0 cap0 w hm).mono ?_
    rintro e w' ⟨rfl, rfl⟩
    go_wp2_with fail
    refine hD.mono ?_
    clear hD
    rintro e w1 ⟨s, rfl, hs, bel1⟩
    have hX := lex_any s w1 (by omega)
    go_wp2_with fail
    refine hX.mono ?_
    clear hX
    rintro e w2 ⟨ax, cx, q, ts, rfl, hown, hlx, hl, bel2⟩
    have HLX : Hid (LexR s 0 [] ts q) := hlx
    have HRD : Hid (RdO w2 ax ts) := rdO_own hown
    have belB : Below w.heap.size w w2 := bel1.trans (bel2.mono bel1.size)
    obtain ⟨n, hn⟩ : ∃ n, ts.length = n := ⟨_, rfl⟩
    have HLN : Hid (ts.length = n) := hn
    rw [hn] at hl ⊢
    have hX := specLex_any s w2 (by omega)
    clear hown hlx bel1 bel2 hn
    go_wp2_with fail
    refine hX.mono ?_
    clear hX
    rintro e w3 ⟨ay, cy, q2, ts2, rfl, _, hlx2, _, bel3⟩
    obtain ⟨rfl, rfl⟩ := HLX.out.same hlx2
    have HRD3 : Hid (RdO w3 ax ts) := HRD.out.later bel3
    have belC : Below w.heap.size w w3 := belB.trans (bel3.mono belB.size)
    rw [HLN.out]
    clear HRD hlx2 bel3 belB
    by_cases hq : q = -1
    case neg =>
      have h0 : n = 0 := by rw [← HLN.out, HLX.out.none hq]; rfl
      have e1 : (q == -1) = false := by rw [beq_eq_false_iff_ne]; exact hq
      subst h0
      clear HLX HRD3 HTB hq
      go_wp2_with fail
      go_ret
      exact ⟨rfl, belC⟩
    subst hq
    have hJ := joinLex_any ax cx ts w3 n HLX.out.ok HLN.out (by omega) HRD3.out (HTB.out.later belC)
    clear HTB
    go_wp2_with fail
    refine hJ.mono ?_
    clear hJ
    rintro e w4 ⟨x, rfl, HLX2, hxs, bel4⟩
    have HRD4 : Hid (RdO w4 ax ts) := HRD3.out.later bel4
    have belD : Below w.heap.size w w4 := belC.trans (bel4.mono belC.size)
    have hX := lex_any x w4 hxs
    clear HRD3 bel4 belC
    go_wp2_with fail
    refine hX.mono ?_
    clear hX
    rintro e w5 ⟨a5, c5, q5, ts5, rfl, hown5, hlx5, _, bel5⟩
    obtain ⟨rfl, rfl⟩ := HLX2.out.same hlx5
    have HR5 : Hid (RdO w5 a5 ts) := rdO_own hown5
    have HRD5 : Hid (RdO w5 ax ts) := HRD4.out.later bel5
    have belE : Below w.heap.size w w5 := belD.trans (bel5.mono belD.size)
    rw [HLN.out]
    clear HRD4 hown5 hlx5 bel5 belD HLX2 hxs
    have HRM : Hid (LexR ((rmk ++ s) ++ ⟨#[10]⟩) 0 [] ts (-1)) := lex_remark HLX.out
    have hsz : ((rmk ++ s) ++ (⟨#[10]⟩ : ByteArray)).size ≤ 1048576 := by rw [ByteArray.size_append, ByteArray.size_append]; show 10 + _ + 1 ≤ _; omega
    have hX := lex_any ((rmk ++ s) ++ ⟨#[10]⟩) w5 hsz
    have HXX : Hid (∀ Y : ByteArray, Y = (rmk ++ s) ++ ⟨#[10]⟩ → Calls Tryd.prog 10 #[.string Y] w5 fun e w' => ∃ (g : Option Addr) (c : Nat), e = .returned (.tuple #[.slice g n c, .int .i64 (-1)]) ∧ Hid (RdO w' g ts) ∧ Below w5.heap.size w5 w') := fun Y hY => by
      rw [hY]
      refine hX.mono ?_
      rintro e w6 ⟨a6, c6, q6, ts6, rfl, hown6, hlx6, _, bel6⟩
      obtain ⟨rfl, rfl⟩ := HRM.out.same hlx6
      exact ⟨a6, c6, by rw [HLN.out], rdO_own hown6, bel6⟩
    clear hX hsz HRM HLX
    go_wp2_with fail
    refine (HXX.out _ rfl).mono ?_
    clear HXX
    rintro e w6 ⟨a6, c6, rfl, HR6, bel6⟩
    have HR5' : Hid (RdO w6 a5 ts) := HR5.out.later bel6
    have HRD6 : Hid (RdO w6 ax ts) := HRD5.out.later bel6
    have belF : Below w.heap.size w w6 := belE.trans (bel6.mono belE.size)
    have hC := sameToks_any a5 ax c5 cx ts w6 n HLN.out HR5'.out HRD6.out (by omega)
    clear HR5 HRD5 bel6 belE HR5'
    go_wp2_with fail
    refine hC.mono ?_
    clear hC
    rintro e w7 ⟨rfl, bel7⟩
    have hC := sameToks_any a6 ax c6 cx ts w7 n HLN.out (HR6.out.later bel7) (HRD6.out.later bel7) (by omega)
    have belG : Below w.heap.size w w7 := belF.trans (bel7.mono belF.size)
    clear HR6 HRD6 bel7 belF
    go_wp2_with fail
    refine hC.mono ?_
    clear hC
    rintro e w8 ⟨rfl, bel8⟩
    have belH : Below w.heap.size w w8 := belG.trans (bel8.mono belG.size)
    clear bel8 belG
    go_wp2_with fail
    go_ret
    exact ⟨rfl, belH⟩

/-- The start that the program's own text lays meets the condition. -/
theorem door_met (os : Os) (args : Array Value) : laidMetH Tryd.prog Rows.fnLexedRow.laid ((World.doorLaid Tryd.prog 4000 os).forCall (fun _ _ => 0) ⟨#[], args, []⟩).memory :=
  laidMetH_of_parts3 (fuel := 8) (laidMet_of_run' 8 (by kernel_rfl) (by kernel_rfl)) (by kernel_rfl) (by kernel_rfl)

theorem gPow : Tryd.prog.globalNamed "internal/strconv.uint64pow10" = some 1 := by kernel_rfl
theorem tPow : (Tryd.prog.globals[1]?).map (·.type) = some 123 := by kernel_rfl

/-- What the condition gives the walk. -/
theorem of_laid {W : World} (h : laidMetH Tryd.prog Rows.fnLexedRow.laid W) : TabOk W := by
  rw [MakeChecks.laidMetH_plain _ _ _ (by kernel_rfl)] at h
  have h2 : laidMet Tryd.prog [("internal/strconv.uint64pow10", Lib.tabData .u64 Lib.pow10Tab)] W := laidMet.tail (laidMet.tail h)
  exact Lib.tabIs_of_head gPow tPow Tryd.underlying123 Tryd.underlying116 (by kernel_rfl) (by kernel_rfl) h2

set_option maxRecDepth 100000 in
theorem lifted (os : Os) (started : os.Started) (H : Type) (enc : TypeId × Value → H) :
    ReturnsInHanded {} Tryd.checked os 4 .any (fun w args => (Rows.fnLexedSpec.pre enc Tryd.prog Tryd.f4 [] false w args ∧ laidMetH Tryd.prog Rows.fnLexedRow.laid w) ∧ sizedMet enc Tryd.prog Tryd.f4 (OpenSpec.ofChange Rows.fnLexedSpec) false w args)
      (Rows.fnLexedSpec.post enc Tryd.prog Tryd.f4 false true false false) := by
  refine returnsInHanded_of_change_and (C := Tryd.checked) (X := fun w _ => laidMetH Tryd.prog Rows.fnLexedRow.laid w) (fun _ _ _ hh h => h.of_heap hh) own started (by kernel_rfl) Tryd.func4
    (ChangeSpec.witness_shaped (enc := enc) (C := Tryd.checked) (os := os) (X := fun w _ => laidMetH Tryd.prog Rows.fnLexedRow.laid w) false (World.doorLaid Tryd.prog 4000 os) #[.slice none 0 0] 8 rfl (World.shaped_of_RefB (by kernel_rfl) (by kernel_rfl)) (by kernel_rfl) (by kernel_rfl) (by kernel_rfl) (door_met os _)) ?_
  intro W base args ds gs before hval0 hW _ _ hL _
  have hval : ∀ (j : Nat) t v, Tryd.f4.params[j]? = some t → args[j]? = some v → Value.okWide Tryd.prog W .any base t v := hval0
  have hW' := hW
  obtain ⟨p, q, hA0, hV, rfl, hfz, hnd⟩ := hW
  have hA : DataW.TrodAll enc Tryd.prog W 0 (fun _ => true) true Tryd.f4.params.toList args.toList ds p := hA0
  rw [Tryd.params4] at hA hval
  obtain ⟨v0, vs0, d0, ds0, p0, q0, hargs, rfl, rfl, h0, rr0⟩ := trodAll_cons hA
  obtain ⟨rfl, rfl, rfl⟩ := trodAll_nil rr0
  obtain rfl : args = #[v0] := by cases args; simp_all
  obtain ⟨rfl, rfl⟩ := trodVars_none hV
  obtain ⟨a0, len0, cap0, rfl⟩ := okWide_slice Tryd.underlying22 (hval 0 22 v0 rfl rfl)
  have k0 := h0
  have lt0 : ∀ x ∈ p0, x.block < W.heap.size := by obtain ⟨m, hm⟩ := k0; exact DataW.trod_lt m _ _ _ hm
  obtain ⟨z0, w0⟩ : ∃ zs, IsRow .u8 W a0 len0 cap0 zs := by
    obtain ⟨fuel, hf⟩ := h0
    rcases open_ints Tryd.underlying22 Tryd.underlying5 (by kernel_rfl) hf with ⟨hcs, _⟩ | ⟨x, l, c, zs, hcs, _, hl, hm, hz, _, hcell, hwz⟩
    · simp [Value.cells] at hcs
      obtain ⟨rfl, rfl, rfl⟩ := hcs
      exact ⟨[], .inl ⟨rfl, rfl, rfl, rfl⟩⟩
    · simp [Value.cells] at hcs
      obtain ⟨rfl, rfl, rfl⟩ := hcs
      exact ⟨zs, .inr ⟨_, rfl, hl, hm, by simpa using hz, hcell, hwz⟩⟩

  clear hA0 hval0
  refine (walk W (of_laid hL) a0 len0 cap0 z0 w0).mono fun e W' ⟨he, bel⟩ => ?_
  subst he
  exact ⟨_, rfl, _, _, _, [], _, [], hW', trodAll_mk1 (shut_bool Tryd.underlying4 _), (trodAll_cons_mk (Below.trod laidOut (by kernel_rfl) (of_decide_eq_true (by kernel_rfl)) k0 bel lt0) trodAll_mk0), rfl, bel.frame _, fun h => by cases h⟩

theorem over : Rows.fnLexedRow.holds Tryd.pinned (OpenSpec.ofChange Rows.fnLexedSpec) :=
  OpenClaim.holds_of_wide 4 Tryd.f4 rfl rfl rfl rfl rfl rfl rfl ⟨rfl, rfl, rfl, rfl, rfl⟩ rfl rfl rfl rfl rfl (by kernel_rfl) Tryd.func4 (by kernel_rfl)
    (of_decide_eq_true (by kernel_rfl)) (by unfold Func.isWrapper; first | (rw [if_pos (by decide +kernel)]; kernel_rfl) | (rw [if_neg (by decide +kernel)]; exact ⟨rfl, rfl⟩))
    (fun os started H enc _ => lifted os started H enc)

theorem card_holds : Claim7.holds Tryd.pinned (.plain (OpenSpec.ofChange Rows.fnLexedSpec)) Rows.fnLexedCard :=
  Claim7.holds_tied_plain_at .later [] [.data, .data, .data] true (true, "0d8c3cce75a68d801dc2de5eab8a91f622c17bdc5bde344897ef15e8a0b8b3c3") true
    over (fun _ h => by cases h) (by kernel_rfl) (fun _ h => by cases h) fnLexed_row_tie rfl ⟨rfl, rfl⟩ (by kernel_rfl) rfl
    (fun f fn hf hfn => by
      obtain rfl : f = 4 := Option.some.inj ((show Tryd.prog.funcNamed Tryd.f4.name = some 4 by kernel_rfl).symm.trans hf) |>.symm
      obtain rfl : fn = Tryd.f4 := (Option.some.inj (Tryd.func4.symm.trans hfn)).symm
      exact ⟨by kernel_rfl, fun j t ht => by
        rw [Tryd.params4] at ht
        have hm : t ∈ [22] := by simpa using Array.mem_of_getElem? ht
        have hall : ([22].all fun u => !Tryd.prog.wantsStandIn u) = true := by kernel_rfl
        exact (show Tryd.prog.wantsStandIn t = false by simpa using List.all_eq_true.1 hall t hm)⟩)
    (by kernel_rfl)

end Go.Proofs.YtickaplokjdijaaDoor.fnLexed
namespace Go.Proofs.YtickaplokjdijaaDoor
/-- THE STATEMENT. -/
theorem fnLexed_said : Rows.FnLexedCardSaid := fnLexed.card_holds
#print axioms fnLexed_said
end Go.Proofs.YtickaplokjdijaaDoor
