/- The program and the model read every text as the same tokens, or tell the same place, and the program's lie in new memory. No condition. (The frame round the walk is the guide's own way.) -/
import Derived.Test.YtickaplokjdijaaLawK
import Derived.WalkKit
import Derived.ProofKit
import Derived.OpenShut
import Derived.ShutString
import Derived.ChangeOld
import Derived.Below
namespace Go.Proofs.Ytickaplokjdijaa.fnExactLex
open Go.ChangeShapes Go.WideShapes Go.ChangeAt Go.RowKit
open Go.ChangeMaps (open_string shut_string)
set_option linter.unusedVariables false

theorem own : ownKnob Try.prog.godebug = none := by kernel_rfl
theorem laidOut : laidOutB Try.prog = true := by kernel_rfl

set_option maxHeartbeats 1000000 in
theorem walk (w : World) (a0 : ByteArray) (w0 : a0.size ≤ maxLen) :
    Calls Try.prog 14 #[.string a0] w fun e w' => e = .returned (.bool true) ∧ Below w.heap.size w w' := by
  by_cases hbig : 1048576 < a0.size
  · go_enter Try.func14, Try.ntmps14
    go_wp2
    go_ret
    exact ⟨rfl, Below.refl _ _⟩
  have hm : a0.size ≤ 1048576 := by omega
  go_enter Try.func14, Try.ntmps14
  go_wp2_with fail
  refine (specLex_any a0 w hm).mono ?_
  rintro e wa ⟨a1, c1, z, ts, rfl, own1, lex1, hl, bela⟩
  have HLX : Hid (LexR a0 0 [] ts z) := lex1
  have HR1 : Hid (RdTk wa a1 ts) := rdTk_own own1
  clear lex1
  go_wp2_with fail
  refine (lex_any a0 wa hm).mono ?_
  rintro e wb ⟨a2, c2, z2, ts2, rfl, own2, lex2, _, belb⟩
  obtain ⟨rfl, rfl⟩ := HLX.out.same lex2
  have HR1b : Hid (RdTk wb a1 ts) := HR1.out.later belb
  have HOW1 : Hid (wb.ownsRow w.heap.size 59 3 (.slice a1 ts.length c1) ts.length (tokCells ts)) := ownsRow_kept own1 belb
  have HLT1 : Hid (∀ g, (Value.slice a1 ts.length c1).ownBlock = some g → g < wa.heap.size) := fun g hg => (own1.lt g hg).2
  have HB2 : Hid (∀ g, (Value.slice a2 ts.length c2).ownBlock = some g → wa.heap.size ≤ g) := row_above own2
  have HOW2 : Hid (wb.ownsRow wa.heap.size 59 3 (.slice a2 ts.length c2) ts.length (tokCells ts)) := own2
  have belB : Below w.heap.size w wb := bela.trans (belb.mono bela.size)
  have hz1 : w.heap.size ≤ wa.heap.size := bela.size
  clear lex2 own1 HR1 bela belb own2
  have hlen : ts.length ≤ 2000 := hl
  obtain ⟨len, hlen2⟩ : ∃ len, ts.length = len := ⟨_, rfl⟩
  have HLEN : Hid (ts.length = len) := hlen2
  have hE := eqTokenS_any a2 a1 c2 c1 ts wb (rdTk_own HOW2.out) HR1b.out hl
  rw [hlen2] at hE hl hlen ⊢
  clear hlen2
  have hne : (z != z) = false := by simp
  go_wp2_with fail
  refine hE.mono ?_
  clear hE
  rintro e wc ⟨rfl, belc⟩
  have HOW1c : Hid (wc.ownsRow w.heap.size 59 3 (.slice a1 ts.length c1) ts.length (tokCells ts)) := ownsRow_kept HOW1.out belc
  have HOW2c : Hid (wc.ownsRow wa.heap.size 59 3 (.slice a2 ts.length c2) ts.length (tokCells ts)) := ownsRow_kept HOW2.out belc
  have belC : Below w.heap.size w wc := belB.trans (belc.mono belB.size)
  clear HOW1 HOW2 HR1b belB belc
  have hM := markTokenS_any wa.heap.size c2 a2 ts wc HOW2c.out (by have := HLEN.out; omega)
  rw [HLEN.out] at hM
  go_wp2_with fail
  refine hM.mono ?_
  clear hM
  rintro e wd ⟨rfl, own3, hgr⟩
  have HB2' : Hid (∀ g, (Value.slice a2 len c2).ownBlock = some g → wa.heap.size ≤ g) := by rw [← HLEN.out]; exact HB2.out
  have belD : Below w.heap.size w wd := belC.trans ⟨hgr.os, hgr.tape, hgr.output, hgr.size, fun g hg => hgr.block g (Nat.lt_of_lt_of_le hg belC.size) (fun e => by have := HB2'.out g e.symm; omega)⟩
  have HR1d : Hid (RdTk wd a1 ts) := by
    have h1 : wd.ownsRow w.heap.size 59 3 (.slice a1 ts.length c1) ts.length (tokCells ts) := by
      have h0 := HOW1c.out
      refine ⟨h0.1, ?_⟩
      rcases h0.2 with h2 | ⟨g, c, cur, e1, e2, e3, e4⟩
      · exact .inl h2
      · have hgl : g < wa.heap.size := HLT1.out g (by rw [e1]; rfl)
        exact .inr ⟨g, c, cur, e1, e2, (hgr.block g (lt_of_heap e3) (fun e => by have := HB2'.out g e.symm; omega)).trans e3, e4⟩
    exact rdTk_own h1
  have HR2d : Hid (RdTk wd a2 (mkTs 1 ts)) := by
    have h1 : wd.ownsRow wa.heap.size 59 3 (.slice a2 (mkTs 1 ts).length c2) (mkTs 1 ts).length (tokCells (mkTs 1 ts)) := by rw [mkTs_len, HLEN.out]; exact own3
    exact rdTk_own h1
  clear own3 hgr HOW1c HOW2c belC
  have hH := heldTokenS_any c2 a2 ts wd HR2d.out (by have := HLEN.out; omega)
  rw [HLEN.out] at hH
  have hnn : decide (1 + 3 * (len : Int) < 0) = false := by simp; omega
  have hmm : ((1 + 3 * (len : Int)) != (1 + 3 * (len : Int))) = false := by simp
  go_wp2_with fail
  refine hH.mono ?_
  clear hH
  rintro e we ⟨rfl, bele⟩
  have HR1e : Hid (RdTk we a1 ts) := HR1d.out.later bele
  have HR2e : Hid (RdTk we a2 (mkTs 1 ts)) := HR2d.out.later bele
  have belE : Below w.heap.size w we := belD.trans (bele.mono belD.size)
  clear HR1d HR2d bele belD
  go_wp2_with fail
  refine (lex_any a0 we hm).mono ?_
  rintro e wf ⟨a3, c3, z3, ts3, rfl, own4, lex3, _, belf⟩
  obtain ⟨rfl, rfl⟩ := HLX.out.same lex3
  have HR1f : Hid (RdTk wf a1 ts) := HR1e.out.later belf
  have HR2f : Hid (RdTk wf a2 (mkTs 1 ts)) := HR2e.out.later belf
  have belF : Below w.heap.size w wf := belE.trans (belf.mono belE.size)
  have hE := eqTokenS_any a3 a1 c3 c1 ts wf (rdTk_own own4) HR1f.out (by have := HLEN.out; omega)
  rw [HLEN.out] at hE ⊢
  clear lex3 own4 HR1e HR2e belf belE
  go_wp2_with fail
  refine hE.mono ?_
  clear hE
  rintro e wg ⟨rfl, belg⟩
  have hH := heldTokenS_any c2 a2 ts wg (HR2f.out.later belg) (by have := HLEN.out; omega)
  rw [HLEN.out] at hH
  have belG : Below w.heap.size w wg := belF.trans (belg.mono belF.size)
  clear HR1f HR2f belg belF
  go_wp2_with fail
  refine hH.mono ?_
  clear hH
  rintro e wh ⟨rfl, belh⟩
  have belH : Below w.heap.size w wh := belG.trans (belh.mono belG.size)
  clear belG belh
  go_wp2_with fail
  go_ret
  exact ⟨rfl, belH⟩

set_option maxRecDepth 100000 in
theorem lifted (os : Os) (started : os.Started) (H : Type) (enc : TypeId × Value → H) :
    ReturnsInHanded {} Try.checked os 14 .any (Rows.fnExactLexSpec.pre6 enc Try.prog Try.f14 Rows.fnExactLexRow.domain false) (Rows.fnExactLexSpec.post enc Try.prog Try.f14 false true false false) := by
  refine returnsInHanded_of_change (C := Try.checked) own started (by kernel_rfl) Try.func14
    (ChangeSpec.witness6 (enc := enc) (C := Try.checked) false ⟨#[], #[.string ⟨#[]⟩], []⟩ 8 (by kernel_rfl) (by kernel_rfl) (by kernel_rfl) (by kernel_rfl)) ?_
  intro W base args ds gs before hval0 hW hcnd _
  have hval : ∀ (j : Nat) t v, Try.f14.params[j]? = some t → args[j]? = some v → Value.okWide Try.prog W .any base t v := hval0
  have hW' := hW
  obtain ⟨p, q, hA0, hV, rfl, hfz, hnd⟩ := hW
  have hA : DataW.TrodAll enc Try.prog W 0 (fun _ => true) true Try.f14.params.toList args.toList ds p := hA0
  rw [Try.params14] at hA hval
  obtain ⟨v0, vs0, d0, ds0, p0, q0, hargs, rfl, rfl, h0, rr0⟩ := trodAll_cons hA
  obtain ⟨rfl, rfl, rfl⟩ := trodAll_nil rr0
  obtain rfl : args = #[v0] := by cases args; simp_all
  obtain ⟨rfl, rfl⟩ := trodVars_none hV
  obtain ⟨a0, rfl, rfl, rfl, w0⟩ := open_string Try.underlying9 (hval 0 9 v0 rfl rfl) h0

  clear hA0 hval0
  refine (walk W a0 w0).mono fun e W' ⟨he, bel⟩ => ?_
  subst he
  exact ⟨_, rfl, _, _, _, [], _, [], hW', trodAll_mk1 (shut_bool Try.underlying4 _), (trodAll_cons_mk (shut_string Try.underlying9 w0) trodAll_mk0), rfl, bel.frame _, fun h => by cases h⟩

theorem over : Rows.fnExactLexRow.holds Try.pinned (OpenSpec.ofChange Rows.fnExactLexSpec) :=
  OpenClaim.holds_of_wide 14 Try.f14 rfl rfl rfl rfl rfl rfl rfl ⟨rfl, rfl, rfl, rfl, rfl⟩ rfl rfl rfl rfl rfl (by kernel_rfl) Try.func14 (by kernel_rfl)
    (of_decide_eq_true (by kernel_rfl)) (by unfold Func.isWrapper; first | (rw [if_pos (by decide +kernel)]; kernel_rfl) | (rw [if_neg (by decide +kernel)]; exact ⟨rfl, rfl⟩))
    (fun os started H enc _ => lifted os started H enc)

end Go.Proofs.Ytickaplokjdijaa.fnExactLex
namespace Go.Proofs.Ytickaplokjdijaa
/-- THE STATEMENT. -/
theorem fnExactLex_said : Rows.FnExactLexSaid := fnExactLex.over
#print axioms fnExactLex_said
end Go.Proofs.Ytickaplokjdijaa
