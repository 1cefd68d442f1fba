/- Drawn tokens come back of their texts, joined. No condition but that the library's table lies as its own text lays it (the card ties it). (The frame round the walk is the guide's own way.) -/
import Derived.Test.YtickaplokjdijaaDoorTkSame
import Derived.Test.YtickaplokjdijaaDoorRead
import Derived.Test.YtickaplokjdijaaDoorTie
import Derived.Test.YtickaplokjdijaaDoorCards
import Derived.WalkKit
import Derived.ProofKit
import Derived.LaidMore
import Derived.OpenShut
import Derived.ShutString
import Derived.ChangeOld
import Derived.Below
import Derived.Stop.Joined
import Derived.Stop.LaidErr
import Derived.SevenTiedAt
namespace Go.Proofs.YtickaplokjdijaaDoor.fnTokens
open Go.ChangeShapes Go.WideShapes Go.ChangeAt Go.RowKit
open Go.ChangeMaps (open_string shut_string)
set_option linter.unusedVariables false

theorem own : ownKnob Tryd.prog.godebug = none := by kernel_rfl
theorem laidOut : laidOutB Tryd.prog = true := by kernel_rfl

set_option maxHeartbeats 1000000 in
theorem walk (w : World) (htab : TabOk w) (a0 : Option Addr) (len0 cap0 : Nat) (z0 : List Int) (w0 : IsRow .u8 w a0 len0 cap0 z0) :
    Calls Tryd.prog 3 #[.slice a0 len0 cap0] w fun e w' => e = .returned (.bool true) ∧ Below w.heap.size w w' := by
  by_cases hbig : 1048576 < len0
  · go_enter Tryd.func3, Tryd.ntmps3
    go_wp2_with fail
    refine (big_yes a0 len0 cap0 w hbig).mono ?_
    rintro e w' ⟨rfl, rfl⟩
    go_wp2
    go_ret
    exact ⟨rfl, Below.refl _ _⟩
  · have hm : len0 ≤ 1048576 := by omega
    have HTB : Hid (TabOk w) := htab
    have hD := drawJoin_any a0 len0 cap0 z0 w w0 hm
    clear w0 htab
    go_enter Tryd.func3, Tryd.ntmps3
    go_wp2_with fail
    refine (big_no a0 len0 cap0 w hm).mono ?_
    rintro e w' ⟨rfl, rfl⟩
    go_wp2_with fail
    refine hD.mono ?_
    clear hD
    rintro e w1 ⟨g, c, ts, rfl, hl, HD, ⟨B, hB, hown⟩, bel1⟩
    have HRD : Hid (RdO w1 g ts) := rdO_own hown
    obtain ⟨n, hn⟩ : ∃ n, ts.length = n := ⟨_, rfl⟩
    have HLN : Hid (ts.length = n) := hn
    rw [hn] at hl ⊢
    have hJ := joinLex_any g c ts w1 n HD.out hn (by omega) HRD.out (HTB.out.later bel1)
    clear hown hB hn
    go_wp2_with fail
    refine hJ.mono ?_
    clear hJ
    rintro e w2 ⟨x, rfl, HLX, hxs, bel2⟩
    have belB : Below w.heap.size w w2 := bel1.trans (bel2.mono bel1.size)
    have hX := lex_any x w2 hxs
    go_wp2_with fail
    refine hX.mono ?_
    clear hX
    rintro e w3 ⟨ax, cx, q, ts2, rfl, hown3, hlx, hl3, bel3⟩
    obtain ⟨rfl, rfl⟩ := hlx.same HLX.out
    have HR3 : Hid (RdO w3 ax ts2) := rdO_own hown3
    have HRD3 : Hid (RdO w3 g ts2) := (HRD.out.later bel2).later bel3
    have belC : Below w.heap.size w w3 := belB.trans (bel3.mono belB.size)
    rw [HLN.out]
    clear hown3 hlx hl3 HLX HRD bel1 bel2 bel3 belB hxs
    have HTB3 : Hid (TabOk w3) := HTB.out.later belC
    clear HTB
    go_wp2_with fail
    go_loopw [6] (fun i wr => ∃ k : Nat, k ≤ n ∧ i = .int .i64 k ∧ Below w3.heap.size w3 wr) (fun i _ => n - (intOf i).toNat)
    case atStart => exact ⟨0, Nat.zero_le _, rfl, Below.refl _ _⟩
    case round =>
      obtain ⟨k, hk, rfl, hb⟩ := hrel
      by_cases hkl : k < n
      · obtain ⟨t, ht⟩ : ∃ t, ts2[k]? = some t := ⟨_, List.getElem?_eq_getElem (by rw [HLN.out]; exact hkl)⟩
        obtain ⟨b1, o1, rfl, f0, f1, f2⟩ := HRD3.out k t ht
        have f0 := cell_later hb f0
        have f1 := cell_later hb f1
        have f2 := cell_later hb f2
        have hkl' : (k : Int) < (n : Int) := by omega
        have hdt := HD.out t (List.mem_of_getElem? ht)
        have hsz : t.2.2.size ≤ 9223372036854775807 := Nat.le_trans hdt.2 (by omega)
        have HOK : Hid (TokP t.1 t.2.1 t.2.2) := hdt.1
        have hC := tokenOk_any t.1 t.2.1 t.2.2 wr hsz
        clear ht hdt
        go_wp2_with fail
        refine hC.mono ?_
        clear hC
        rintro e w4 ⟨b, rfl, hbt, hb4⟩
        obtain rfl := hbt.2 HOK.out
        have hbb : Below w3.heap.size w3 w4 := hb.trans (hb4.mono hb.size)
        have f0 := cell_later hb4 f0
        have f1 := cell_later hb4 f1
        have f2 := cell_later hb4 f2
        have hC := tokenText_any t.1 t.2.1 t.2.2 w4 hsz (HTB3.out.later hbb)
        clear hbt hb4 hb
        go_wp2_with fail
        refine hC.mono ?_
        clear hC
        rintro e w5 ⟨r, rfl, HT, hb5⟩
        have hb6 : Below w3.heap.size w3 w5 := hbb.trans (hb5.mono hbb.size)
        have hpos := text_pos HOK.out HT.out
        have hne : (r.toList == []) = false := by
          rw [Lib.toList_data]
          rw [Lib.size_eq] at hpos
          cases h : r.data.toList with
          | nil => rw [h] at hpos; cases hpos
          | cons a b => rfl
        clear hbb hb5 HT HOK f0 f1 f2 hpos
        go_wp2
        go_roundw
        case rel => exact ⟨k + 1, by omega, by go_num, hb6⟩
        case measure => simp [intOf]; omega
      · have hC := sameToks_any ax g cx c ts2 wr n HLN.out (HR3.out.later hb) (HRD3.out.later hb) (by omega)
        have hb3 : Below w.heap.size w wr := belC.trans (hb.mono belC.size)
        clear hb HR3 HRD3
        go_wp2_with fail
        refine hC.mono ?_
        clear hC
        rintro e w6 ⟨rfl, hb6⟩
        have hb7 : Below w.heap.size w w6 := hb3.trans (hb6.mono hb3.size)
        go_wp2_with fail
        go_ret
        exact ⟨rfl, hb7⟩

/-- The start that the program's own text lays meets the condition. -/
theorem door_met (os : Os) (args : Array Value) : laidMetH Tryd.prog Rows.fnTokensRow.laid ((World.doorLaid Tryd.prog 4000 os).forCall (fun _ _ => 0) ⟨#[], args, []⟩).memory :=
  laidMetH_of_parts3 (fuel := 8) (laidMet_of_run' 8 (by kernel_rfl) (by kernel_rfl)) (by kernel_rfl) (by kernel_rfl)

theorem gPow : Tryd.prog.globalNamed "internal/strconv.uint64pow10" = some 1 := by kernel_rfl
theorem tPow : (Tryd.prog.globals[1]?).map (·.type) = some 123 := by kernel_rfl

/-- What the condition gives the walk. -/
theorem of_laid {W : World} (h : laidMetH Tryd.prog Rows.fnTokensRow.laid W) : TabOk W := by
  rw [MakeChecks.laidMetH_plain _ _ _ (by kernel_rfl)] at h
  have h2 : laidMet Tryd.prog [("internal/strconv.uint64pow10", Lib.tabData .u64 Lib.pow10Tab)] W := laidMet.tail (laidMet.tail h)
  exact Lib.tabIs_of_head gPow tPow Tryd.underlying123 Tryd.underlying116 (by kernel_rfl) (by kernel_rfl) h2

set_option maxRecDepth 100000 in
theorem lifted (os : Os) (started : os.Started) (H : Type) (enc : TypeId × Value → H) :
    ReturnsInHanded {} Tryd.checked os 3 .any (fun w args => (Rows.fnTokensSpec.pre enc Tryd.prog Tryd.f3 [] false w args ∧ laidMetH Tryd.prog Rows.fnTokensRow.laid w) ∧ sizedMet enc Tryd.prog Tryd.f3 (OpenSpec.ofChange Rows.fnTokensSpec) false w args)
      (Rows.fnTokensSpec.post enc Tryd.prog Tryd.f3 false true false false) := by
  refine returnsInHanded_of_change_and (C := Tryd.checked) (X := fun w _ => laidMetH Tryd.prog Rows.fnTokensRow.laid w) (fun _ _ _ hh h => h.of_heap hh) own started (by kernel_rfl) Tryd.func3
    (ChangeSpec.witness_shaped (enc := enc) (C := Tryd.checked) (os := os) (X := fun w _ => laidMetH Tryd.prog Rows.fnTokensRow.laid w) false (World.doorLaid Tryd.prog 4000 os) #[.slice none 0 0] 8 rfl (World.shaped_of_RefB (by kernel_rfl) (by kernel_rfl)) (by kernel_rfl) (by kernel_rfl) (by kernel_rfl) (door_met os _)) ?_
  intro W base args ds gs before hval0 hW _ _ hL _
  have hval : ∀ (j : Nat) t v, Tryd.f3.params[j]? = some t → args[j]? = some v → Value.okWide Tryd.prog W .any base t v := hval0
  have hW' := hW
  obtain ⟨p, q, hA0, hV, rfl, hfz, hnd⟩ := hW
  have hA : DataW.TrodAll enc Tryd.prog W 0 (fun _ => true) true Tryd.f3.params.toList args.toList ds p := hA0
  rw [Tryd.params3] at hA hval
  obtain ⟨v0, vs0, d0, ds0, p0, q0, hargs, rfl, rfl, h0, rr0⟩ := trodAll_cons hA
  obtain ⟨rfl, rfl, rfl⟩ := trodAll_nil rr0
  obtain rfl : args = #[v0] := by cases args; simp_all
  obtain ⟨rfl, rfl⟩ := trodVars_none hV
  obtain ⟨a0, len0, cap0, rfl⟩ := okWide_slice Tryd.underlying22 (hval 0 22 v0 rfl rfl)
  have k0 := h0
  have lt0 : ∀ x ∈ p0, x.block < W.heap.size := by obtain ⟨m, hm⟩ := k0; exact DataW.trod_lt m _ _ _ hm
  obtain ⟨z0, w0⟩ : ∃ zs, IsRow .u8 W a0 len0 cap0 zs := by
    obtain ⟨fuel, hf⟩ := h0
    rcases open_ints Tryd.underlying22 Tryd.underlying5 (by kernel_rfl) hf with ⟨hcs, _⟩ | ⟨x, l, c, zs, hcs, _, hl, hm, hz, _, hcell, hwz⟩
    · simp [Value.cells] at hcs
      obtain ⟨rfl, rfl, rfl⟩ := hcs
      exact ⟨[], .inl ⟨rfl, rfl, rfl, rfl⟩⟩
    · simp [Value.cells] at hcs
      obtain ⟨rfl, rfl, rfl⟩ := hcs
      exact ⟨zs, .inr ⟨_, rfl, hl, hm, by simpa using hz, hcell, hwz⟩⟩

  clear hA0 hval0
  refine (walk W (of_laid hL) a0 len0 cap0 z0 w0).mono fun e W' ⟨he, bel⟩ => ?_
  subst he
  exact ⟨_, rfl, _, _, _, [], _, [], hW', trodAll_mk1 (shut_bool Tryd.underlying4 _), (trodAll_cons_mk (Below.trod laidOut (by kernel_rfl) (of_decide_eq_true (by kernel_rfl)) k0 bel lt0) trodAll_mk0), rfl, bel.frame _, fun h => by cases h⟩

theorem over : Rows.fnTokensRow.holds Tryd.pinned (OpenSpec.ofChange Rows.fnTokensSpec) :=
  OpenClaim.holds_of_wide 3 Tryd.f3 rfl rfl rfl rfl rfl rfl rfl ⟨rfl, rfl, rfl, rfl, rfl⟩ rfl rfl rfl rfl rfl (by kernel_rfl) Tryd.func3 (by kernel_rfl)
    (of_decide_eq_true (by kernel_rfl)) (by unfold Func.isWrapper; first | (rw [if_pos (by decide +kernel)]; kernel_rfl) | (rw [if_neg (by decide +kernel)]; exact ⟨rfl, rfl⟩))
    (fun os started H enc _ => lifted os started H enc)

theorem card_holds : Claim7.holds Tryd.pinned (.plain (OpenSpec.ofChange Rows.fnTokensSpec)) Rows.fnTokensCard :=
  Claim7.holds_tied_plain_at .later [] [.data, .data, .data] true (true, "0d8c3cce75a68d801dc2de5eab8a91f622c17bdc5bde344897ef15e8a0b8b3c3") true
    over (fun _ h => by cases h) (by kernel_rfl) (fun _ h => by cases h) fnTokens_row_tie rfl ⟨rfl, rfl⟩ (by kernel_rfl) rfl
    (fun f fn hf hfn => by
      obtain rfl : f = 3 := Option.some.inj ((show Tryd.prog.funcNamed Tryd.f3.name = some 3 by kernel_rfl).symm.trans hf) |>.symm
      obtain rfl : fn = Tryd.f3 := (Option.some.inj (Tryd.func3.symm.trans hfn)).symm
      exact ⟨by kernel_rfl, fun j t ht => by
        rw [Tryd.params3] at ht
        have hm : t ∈ [22] := by simpa using Array.mem_of_getElem? ht
        have hall : ([22].all fun u => !Tryd.prog.wantsStandIn u) = true := by kernel_rfl
        exact (show Tryd.prog.wantsStandIn t = false by simpa using List.all_eq_true.1 hall t hm)⟩)
    (by kernel_rfl)

end Go.Proofs.YtickaplokjdijaaDoor.fnTokens
namespace Go.Proofs.YtickaplokjdijaaDoor
/-- THE STATEMENT. -/
theorem fnTokens_said : Rows.FnTokensCardSaid := fnTokens.card_holds
#print axioms fnTokens_said
end Go.Proofs.YtickaplokjdijaaDoor
