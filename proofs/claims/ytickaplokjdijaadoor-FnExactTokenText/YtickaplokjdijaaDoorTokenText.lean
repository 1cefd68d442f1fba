/- The program and the model make the same text of every token. No condition but that the library's table lies as its own text lays it (the card ties it). (The frame round the walk is the guide's own way.) -/
import Derived.Test.YtickaplokjdijaaDoorDr1
import Derived.Test.YtickaplokjdijaaDoorTkRead
import Derived.Test.YtickaplokjdijaaDoorTie
import Derived.Test.YtickaplokjdijaaDoorCards
import Derived.WalkKit
import Derived.ProofKit
import Derived.LaidMore
import Derived.OpenShut
import Derived.ShutString
import Derived.ChangeOld
import Derived.Below
import Derived.Stop.Joined
import Derived.Stop.LaidErr
import Derived.SevenTiedAt
namespace Go.Proofs.YtickaplokjdijaaDoor.fnExactTokenText
open Go.ChangeShapes Go.WideShapes Go.ChangeAt Go.RowKit
open Go.ChangeMaps (open_string shut_string)
set_option linter.unusedVariables false

theorem own : ownKnob Tryd.prog.godebug = none := by kernel_rfl
theorem laidOut : laidOutB Tryd.prog = true := by kernel_rfl

set_option maxHeartbeats 1000000 in
theorem walk (w : World) (htab : TabOk w) (k0 n0 : Int) (s0 : ByteArray) (wk0 : I64 k0) (wn0 : I64 n0) (ws0 : s0.size ≤ maxLen) :
    Calls Tryd.prog 6 #[.agg #[.int .i64 k0, .int .i64 n0, .string s0]] w fun e w' => e = .returned (.bool true) ∧ Below w.heap.size w w' := by
  have HTB : Hid (TabOk w) := htab
  clear htab
  have hs : s0.size ≤ 9223372036854775807 := Nat.le_trans ws0 (by decide)
  go_enter Tryd.func6, Tryd.ntmps6
  go_wp2_with fail
  have bel1 : Below w.heap.size w (w.alloc (.cells #[.int .i64 k0, .int .i64 n0, .string s0] 46)) := (Below.refl _ _).alloc (Nat.le_refl _) _
  have hcel : (w.alloc (.cells #[.int .i64 k0, .int .i64 n0, .string s0] 46)).heap[w.heap.size]? = some (.cells #[.int .i64 k0, .int .i64 n0, .string s0] 46 (0, 0)) := heap_alloc_new w _
  refine (szToken_any k0 n0 s0 1048576 _ ws0 (by omega) (by omega)).mono ?_
  rintro e wa ⟨rfl, bela⟩
  have hcela := (bela.block _ (by simp)).trans hcel
  have belA : Below w.heap.size w wa := bel1.trans (bela.mono bel1.size)
  clear bel1 hcel bela
  by_cases hz : s0.size ≤ 1048576
  case neg =>
    have hl : lft 1048576 s0.size = -1 := by unfold lft; rw [if_neg (by omega)]
    rw [hl]
    clear hz hl
    go_wp2_with fail
    go_ret
    exact ⟨rfl, belA⟩
  have hl : ∃ x : Int, lft 1048576 s0.size = x ∧ 0 ≤ x := ⟨_, rfl, by unfold lft; rw [if_pos (by omega)]; omega⟩
  obtain ⟨x, hx, hx0⟩ := hl
  rw [hx]
  clear hz hx
  have hwz : w.heap.size < wa.heap.size := Nat.lt_of_not_le fun h => by rw [Array.getElem?_eq_none h] at hcela; cases hcela
  have c0 : wa.cell? ⟨w.heap.size, 0, none⟩ = some (.int .i64 k0) := by rw [cell_of_row wa _ 0 _ _ _ hcela]; rfl
  have c1 : wa.cell? ⟨w.heap.size, 1, none⟩ = some (.int .i64 n0) := by rw [cell_of_row wa _ 1 _ _ _ hcela]; rfl
  have c2 : wa.cell? ⟨w.heap.size, 2, none⟩ = some (.string s0) := by rw [cell_of_row wa _ 2 _ _ _ hcela]; rfl
  go_wp2_with fail
  refine (toToken_any k0 n0 s0 wa).mono ?_
  rintro e wb ⟨rfl, belb⟩
  clear c0 c1 c2
  go_wp2_with fail
  refine (specTokenText_any k0 n0 s0 wb hs).mono ?_
  rintro e wc ⟨r1, rfl, HB, belc⟩
  have belAc : Below wa.heap.size wa wc := belb.trans (belc.mono belb.size)
  have hcelc := (belAc.block _ hwz).trans hcela
  have belC : Below w.heap.size w wc := belA.trans (belAc.mono belA.size)
  clear belb belc belA belAc hcela hwz
  have c0 : wc.cell? ⟨w.heap.size, 0, none⟩ = some (.int .i64 k0) := by rw [cell_of_row wc _ 0 _ _ _ hcelc]; rfl
  have c1 : wc.cell? ⟨w.heap.size, 1, none⟩ = some (.int .i64 n0) := by rw [cell_of_row wc _ 1 _ _ _ hcelc]; rfl
  have c2 : wc.cell? ⟨w.heap.size, 2, none⟩ = some (.string s0) := by rw [cell_of_row wc _ 2 _ _ _ hcelc]; rfl
  go_wp2_with fail
  refine (toToken_any k0 n0 s0 wc).mono ?_
  rintro e wd ⟨rfl, beld⟩
  clear c0 c1 c2
  go_wp2_with fail
  have belD : Below w.heap.size w wd := belC.trans (beld.mono belC.size)
  refine (tokenText_any k0 n0 s0 wd hs (HTB.out.later belD)).mono ?_
  rintro e we ⟨r2, rfl, HB2, bele⟩
  have belE : Below w.heap.size w we := belD.trans (bele.mono belD.size)
  obtain rfl := HB.out.same HB2.out
  have hne : (r1.toList == r1.toList) = true := by simp
  clear HB HB2 belC beld bele belD HTB
  go_wp2_with fail
  go_ret
  exact ⟨rfl, belE⟩

/-- The start that the program's own text lays meets the condition. -/
theorem door_met (os : Os) (args : Array Value) : laidMetH Tryd.prog Rows.fnExactTokenTextRow.laid ((World.doorLaid Tryd.prog 4000 os).forCall (fun _ _ => 0) ⟨#[], args, []⟩).memory :=
  laidMetH_of_parts3 (fuel := 8) (laidMet_of_run' 8 (by kernel_rfl) (by kernel_rfl)) (by kernel_rfl) (by kernel_rfl)

theorem gPow : Tryd.prog.globalNamed "internal/strconv.uint64pow10" = some 1 := by kernel_rfl
theorem tPow : (Tryd.prog.globals[1]?).map (·.type) = some 123 := by kernel_rfl

/-- What the condition gives the walk. -/
theorem of_laid {W : World} (h : laidMetH Tryd.prog Rows.fnExactTokenTextRow.laid W) : TabOk W := by
  rw [MakeChecks.laidMetH_plain _ _ _ (by kernel_rfl)] at h
  have h2 : laidMet Tryd.prog [("internal/strconv.uint64pow10", Lib.tabData .u64 Lib.pow10Tab)] W := laidMet.tail (laidMet.tail h)
  exact Lib.tabIs_of_head gPow tPow Tryd.underlying123 Tryd.underlying116 (by kernel_rfl) (by kernel_rfl) h2

set_option maxRecDepth 100000 in
theorem lifted (os : Os) (started : os.Started) (H : Type) (enc : TypeId × Value → H) :
    ReturnsInHanded {} Tryd.checked os 6 .any (fun w args => (Rows.fnExactTokenTextSpec.pre enc Tryd.prog Tryd.f6 [] false w args ∧ laidMetH Tryd.prog Rows.fnExactTokenTextRow.laid w) ∧ sizedMet enc Tryd.prog Tryd.f6 (OpenSpec.ofChange Rows.fnExactTokenTextSpec) false w args)
      (Rows.fnExactTokenTextSpec.post enc Tryd.prog Tryd.f6 false true false false) := by
  refine returnsInHanded_of_change_and (C := Tryd.checked) (X := fun w _ => laidMetH Tryd.prog Rows.fnExactTokenTextRow.laid w) (fun _ _ _ hh h => h.of_heap hh) own started (by kernel_rfl) Tryd.func6
    (ChangeSpec.witness_shaped (enc := enc) (C := Tryd.checked) (os := os) (X := fun w _ => laidMetH Tryd.prog Rows.fnExactTokenTextRow.laid w) false (World.doorLaid Tryd.prog 4000 os) #[.agg #[.int .i64 0, .int .i64 0, .string ⟨#[]⟩]] 8 rfl (World.shaped_of_RefB (by kernel_rfl) (by kernel_rfl)) (by kernel_rfl) (by kernel_rfl) (by kernel_rfl) (door_met os _)) ?_
  intro W base args ds gs before hval0 hW _ _ hL _
  have hval : ∀ (j : Nat) t v, Tryd.f6.params[j]? = some t → args[j]? = some v → Value.okWide Tryd.prog W .any base t v := hval0
  have hW' := hW
  obtain ⟨p, q, hA0, hV, rfl, hfz, hnd⟩ := hW
  have hA : DataW.TrodAll enc Tryd.prog W 0 (fun _ => true) true Tryd.f6.params.toList args.toList ds p := hA0
  rw [Tryd.params6] at hA hval
  obtain ⟨v0, vs0, d0, ds0, p0, q0, hargs, rfl, rfl, h0, rr0⟩ := trodAll_cons hA
  obtain ⟨rfl, rfl, rfl⟩ := trodAll_nil rr0
  obtain rfl : args = #[v0] := by cases args; simp_all
  obtain ⟨rfl, rfl⟩ := trodVars_none hV
  have kk0 := h0
  have lt0 : ∀ x ∈ p0, x.block < W.heap.size := by obtain ⟨m, hm⟩ := kk0; exact DataW.trod_lt m _ _ _ hm
  obtain ⟨k0, n0, s0, rfl, wk0, wn0, ws0⟩ := read_token (hval 0 46 v0 rfl rfl) h0

  clear hA0 hval0
  refine (walk W (of_laid hL) k0 n0 s0 wk0 wn0 ws0).mono fun e W' ⟨he, bel⟩ => ?_
  subst he
  exact ⟨_, rfl, _, _, _, [], _, [], hW', trodAll_mk1 (shut_bool Tryd.underlying4 _), (trodAll_cons_mk (Below.trod laidOut (by kernel_rfl) (of_decide_eq_true (by kernel_rfl)) kk0 bel lt0) trodAll_mk0), rfl, bel.frame _, fun h => by cases h⟩

theorem over : Rows.fnExactTokenTextRow.holds Tryd.pinned (OpenSpec.ofChange Rows.fnExactTokenTextSpec) :=
  OpenClaim.holds_of_wide 6 Tryd.f6 rfl rfl rfl rfl rfl rfl rfl ⟨rfl, rfl, rfl, rfl, rfl⟩ rfl rfl rfl rfl rfl (by kernel_rfl) Tryd.func6 (by kernel_rfl)
    (of_decide_eq_true (by kernel_rfl)) (by unfold Func.isWrapper; first | (rw [if_pos (by decide +kernel)]; kernel_rfl) | (rw [if_neg (by decide +kernel)]; exact ⟨rfl, rfl⟩))
    (fun os started H enc _ => lifted os started H enc)

theorem card_holds : Claim7.holds Tryd.pinned (.plain (OpenSpec.ofChange Rows.fnExactTokenTextSpec)) Rows.fnExactTokenTextCard :=
  Claim7.holds_tied_plain_at .later [] [.data, .data, .data] true (true, "0d8c3cce75a68d801dc2de5eab8a91f622c17bdc5bde344897ef15e8a0b8b3c3") true
    over (fun _ h => by cases h) (by kernel_rfl) (fun _ h => by cases h) fnExactTokenText_row_tie rfl ⟨rfl, rfl⟩ (by kernel_rfl) rfl
    (fun f fn hf hfn => by
      obtain rfl : f = 6 := Option.some.inj ((show Tryd.prog.funcNamed Tryd.f6.name = some 6 by kernel_rfl).symm.trans hf) |>.symm
      obtain rfl : fn = Tryd.f6 := (Option.some.inj (Tryd.func6.symm.trans hfn)).symm
      exact ⟨by kernel_rfl, fun j t ht => by
        rw [Tryd.params6] at ht
        have hm : t ∈ [46] := by simpa using Array.mem_of_getElem? ht
        have hall : ([46].all fun u => !Tryd.prog.wantsStandIn u) = true := by kernel_rfl
        exact (show Tryd.prog.wantsStandIn t = false by simpa using List.all_eq_true.1 hall t hm)⟩)
    (by kernel_rfl)

end Go.Proofs.YtickaplokjdijaaDoor.fnExactTokenText
namespace Go.Proofs.YtickaplokjdijaaDoor
/-- THE STATEMENT. -/
theorem fnExactTokenText_said : Rows.FnExactTokenTextCardSaid := fnExactTokenText.card_holds
#print axioms fnExactTokenText_said
end Go.Proofs.YtickaplokjdijaaDoor
