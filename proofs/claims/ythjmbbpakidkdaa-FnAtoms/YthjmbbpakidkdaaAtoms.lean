/- A drawn atom is one as a term, as a token, and as an expression (but for the three words), in the program as in the model. No condition. (The frame round the walk is the guide's own way.) -/
import Derived.Test.YthjmbbpakidkdaaAtomsC
import Derived.Test.YthjmbbpakidkdaaExAt
import Derived.Test.YthjmbbpakidkdaaTk5
import Derived.Test.YthjmbbpakidkdaaDrAt
import Derived.WalkKit
import Derived.ProofKit
import Derived.OpenShut
import Derived.ShutString
import Derived.ChangeOld
import Derived.Below
namespace Go.Proofs.Ythjmbbpakidkdaa.fnAtoms
open Go.ChangeShapes Go.WideShapes Go.ChangeAt Go.RowKit
open Go.ChangeMaps (open_string shut_string)
set_option linter.unusedVariables false

theorem own : ownKnob Try.prog.godebug = none := by kernel_rfl
theorem laidOut : laidOutB Try.prog = true := by kernel_rfl

set_option maxHeartbeats 1000000 in
theorem walk (w : World) (a0 : Option Addr) (len0 cap0 : Nat) (z0 : List Int) (w0 : IsRow .u8 w a0 len0 cap0 z0) :
    Calls Try.prog 10 #[.slice a0 len0 cap0] w fun e w' => e = .returned (.bool true) ∧ Below w.heap.size w w' := by
  by_cases hbig : 1048576 < len0
  · go_enter Try.func10, Try.ntmps10
    go_wp2_with fail
    refine (big_yes a0 len0 cap0 w hbig).mono ?_
    rintro e w' ⟨rfl, rfl⟩
    go_wp2
    go_ret
    exact ⟨rfl, Below.refl _ _⟩
  · have hm : len0 ≤ 1048576 := by omega
    have hD := drawAtom_any a0 len0 cap0 z0 w w0 hm
    clear w0
    go_enter Try.func10, Try.ntmps10
    go_wp2_with fail
    refine (big_no a0 len0 cap0 w hm).mono ?_
    rintro e w' ⟨rfl, rfl⟩
    go_wp2_with fail
    refine hD.mono ?_
    clear hD
    rintro e w1 ⟨s, rfl, hs21, bel1⟩
    have hs : s.size ≤ 9223372036854775807 := by omega
    clear hs21
    go_wp2_with fail
    refine (atomOk_any s w1 hs).mono ?_
    rintro e w' ⟨b, rfl, hb, rfl⟩
    have HB : Hid (b = true ↔ AtomP s) := hb
    clear hb
    obtain ⟨x1, e1⟩ : ∃ x, (s.toList == [99, 97, 115, 101]) = x := ⟨_, rfl⟩
    obtain ⟨x2, e2⟩ : ∃ x, (s.toList == [111, 102]) = x := ⟨_, rfl⟩
    obtain ⟨x3, e3⟩ : ∃ x, (s.toList == [101, 110, 100]) = x := ⟨_, rfl⟩
    have HE : Hid ((b && !x1 && !x2 && !x3) = true ↔ AtomP s ∧ ¬ Wrd s) := wrd_iff e1 e2 e3 HB.out
    have HT : Hid (∀ W : World, Calls Try.prog 22 #[.agg #[.int .i64 2, .int .i64 0, .string s, .slice none 0 0]] W fun e w' => e = .returned (.bool b) ∧ Below W.heap.size W w') := fun W => by
      refine (termOk_any 0 2 0 s (.slice none 0 0) [] W ⟨_, _, rfl⟩ trivial hs).mono ?_
      rintro e w' ⟨b2, rfl, h2, hB⟩
      have : b2 = b := Bool.eq_iff_iff.2 (h2.trans (Iff.trans ⟨fun h => ((shape2 _ _ _).1 h.1).1, fun h => right_zero (by omega) (by omega) ((shape2 _ _ _).2 ⟨h, rfl, rfl⟩)⟩ HB.out.symm))
      rw [this]
      exact ⟨rfl, hB⟩
    have HK : Hid (∀ W : World, Calls Try.prog 51 #[.agg #[.int .i64 2, .int .i64 0, .string s]] W fun e w' => e = .returned (.bool b) ∧ Below W.heap.size W w') := fun W => by
      refine (tokenOk_2 0 s W hs).mono ?_
      rintro e w' ⟨b2, rfl, h2, hB⟩
      have : b2 = b := Bool.eq_iff_iff.2 (h2.trans (Iff.trans ⟨fun h => ((tokP2 _ _).1 h).1, fun h => (tokP2 _ _).2 ⟨h, rfl⟩⟩ HB.out.symm))
      rw [this]
      exact ⟨rfl, hB⟩
    have HX : Hid (∀ W : World, Calls Try.prog 42 #[.agg #[.int .i64 2, .int .i64 0, .string s, .slice none 0 0, .slice none 0 0]] W fun e w' => e = .returned (.bool (b && !x1 && !x2 && !x3)) ∧ Below W.heap.size W w') := fun W => by
      refine (exprOk_atom s W hs).mono ?_
      rintro e w' ⟨b2, rfl, h2, hB⟩
      have : b2 = (b && !x1 && !x2 && !x3) := Bool.eq_iff_iff.2 (h2.trans HE.out.symm)
      rw [this]
      exact ⟨rfl, hB⟩
    have HA : Hid (∀ W : World, Calls Try.prog 50 #[.string s] W fun e w' => e = .returned (.bool b) ∧ W = w') := fun W => by
      refine (specAtomOk_any s W hs).mono ?_
      rintro e w' ⟨b2, rfl, h2, rfl⟩
      have : b2 = b := Bool.eq_iff_iff.2 (h2.trans HB.out.symm)
      rw [this]
      exact ⟨rfl, rfl⟩
    clear HE HB hs
    cases b <;> cases x1 <;> cases x2 <;> cases x3
    all_goals
      go_wp2_with fail
      refine (HA.out _).mono ?_
      rintro e w' ⟨rfl, rfl⟩
      go_wp2_with fail
      refine (HT.out _).mono ?_
      rintro e w2 ⟨rfl, bel2⟩
      have belA : Below w.heap.size w w2 := bel1.trans (bel2.mono bel1.size)
      clear bel2
      go_wp2_with fail
      refine (HK.out _).mono ?_
      rintro e w3 ⟨rfl, bel3⟩
      have belB : Below w.heap.size w w3 := belA.trans (bel3.mono belA.size)
      clear bel3 belA
      go_wp2_with fail
      refine (HX.out _).mono ?_
      rintro e w4 ⟨rfl, bel4⟩
      have belC : Below w.heap.size w w4 := belB.trans (bel4.mono belB.size)
      clear bel4 belB
      go_wp2_with fail
      go_ret
      exact ⟨rfl, belC⟩

set_option maxRecDepth 100000 in
theorem lifted (os : Os) (started : os.Started) (H : Type) (enc : TypeId × Value → H) :
    ReturnsInHanded {} Try.checked os 10 .any (Rows.fnAtomsSpec.pre6 enc Try.prog Try.f10 Rows.fnAtomsRow.domain false) (Rows.fnAtomsSpec.post enc Try.prog Try.f10 false true false false) := by
  refine returnsInHanded_of_change (C := Try.checked) own started (by kernel_rfl) Try.func10
    (ChangeSpec.witness6 (enc := enc) (C := Try.checked) false ⟨#[], #[.slice none 0 0], []⟩ 8 (by kernel_rfl) (by kernel_rfl) (by kernel_rfl) (by kernel_rfl)) ?_
  intro W base args ds gs before hval0 hW hcnd _
  have hval : ∀ (j : Nat) t v, Try.f10.params[j]? = some t → args[j]? = some v → Value.okWide Try.prog W .any base t v := hval0
  have hW' := hW
  obtain ⟨p, q, hA0, hV, rfl, hfz, hnd⟩ := hW
  have hA : DataW.TrodAll enc Try.prog W 0 (fun _ => true) true Try.f10.params.toList args.toList ds p := hA0
  rw [Try.params10] at hA hval
  obtain ⟨v0, vs0, d0, ds0, p0, q0, hargs, rfl, rfl, h0, rr0⟩ := trodAll_cons hA
  obtain ⟨rfl, rfl, rfl⟩ := trodAll_nil rr0
  obtain rfl : args = #[v0] := by cases args; simp_all
  obtain ⟨rfl, rfl⟩ := trodVars_none hV
  obtain ⟨a0, len0, cap0, rfl⟩ := okWide_slice Try.underlying22 (hval 0 22 v0 rfl rfl)
  have k0 := h0
  have lt0 : ∀ x ∈ p0, x.block < W.heap.size := by obtain ⟨m, hm⟩ := k0; exact DataW.trod_lt m _ _ _ hm
  obtain ⟨z0, w0⟩ : ∃ zs, IsRow .u8 W a0 len0 cap0 zs := by
    obtain ⟨fuel, hf⟩ := h0
    rcases open_ints Try.underlying22 Try.underlying5 (by kernel_rfl) hf with ⟨hcs, _⟩ | ⟨x, l, c, zs, hcs, _, hl, hm, hz, _, hcell, hwz⟩
    · simp [Value.cells] at hcs
      obtain ⟨rfl, rfl, rfl⟩ := hcs
      exact ⟨[], .inl ⟨rfl, rfl, rfl, rfl⟩⟩
    · simp [Value.cells] at hcs
      obtain ⟨rfl, rfl, rfl⟩ := hcs
      exact ⟨zs, .inr ⟨_, rfl, hl, hm, by simpa using hz, hcell, hwz⟩⟩

  clear hA0 hval0
  refine (walk W a0 len0 cap0 z0 w0).mono fun e W' ⟨he, bel⟩ => ?_
  subst he
  exact ⟨_, rfl, _, _, _, [], _, [], hW', trodAll_mk1 (shut_bool Try.underlying4 _), (trodAll_cons_mk (Below.trod laidOut (by kernel_rfl) (of_decide_eq_true (by kernel_rfl)) k0 bel lt0) trodAll_mk0), rfl, bel.frame _, fun h => by cases h⟩

theorem over : Rows.fnAtomsRow.holds Try.pinned (OpenSpec.ofChange Rows.fnAtomsSpec) :=
  OpenClaim.holds_of_wide 10 Try.f10 rfl rfl rfl rfl rfl rfl rfl ⟨rfl, rfl, rfl, rfl, rfl⟩ rfl rfl rfl rfl rfl (by kernel_rfl) Try.func10 closed
    (of_decide_eq_true (by kernel_rfl)) (by unfold Func.isWrapper; first | (rw [if_pos (by decide +kernel)]; kernel_rfl) | (rw [if_neg (by decide +kernel)]; exact ⟨rfl, rfl⟩))
    (fun os started H enc _ => lifted os started H enc)

end Go.Proofs.Ythjmbbpakidkdaa.fnAtoms
namespace Go.Proofs.Ythjmbbpakidkdaa
/-- THE STATEMENT. -/
theorem fnAtoms_said : Rows.FnAtomsSaid := fnAtoms.over
#print axioms fnAtoms_said
end Go.Proofs.Ythjmbbpakidkdaa
