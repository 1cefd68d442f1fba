/- The program's FreeOf: an expression comes. -/
import Derived.Test.YtpokheklplcamaaFr4M
namespace Go.Proofs.Ytpokheklplcamaa
open Go.RowKit
set_option linter.unusedVariables false

set_option maxRecDepth 100000 in
set_option maxHeartbeats 8000000 in
theorem come_any {W wr : World} {q nt nb : Nat} {nv sv uv : Value} {acc cb : List ByteArray} {f : Addr → Int → Option Value} {ss : List Sc} {fs : List Fs} {K : List (Nat × Obj)} (h : Fw W wr q nt nb nv sv uv acc acc cb f ss fs K) (d : Nat) (vs : List Value) (x : Ex d) (fe ext : List Nat) (hx : ExO d W vs x fe) (hz : szX d x ≤ 1048576) (g o : Nat) (hcell : ∃ cur t, W.heap[g]? = some (.cells cur t (0, 0)) ∧ ∀ (j : Nat) (u : Value), vs[j]? = some u → cur[o + j]? = some u) (hg : g < q) (E R : Nat) (F : List ByteArray → List ByteArray) (hL : Lf W q nt nb acc f fs ss cb (fe ++ ext) (wkF d x + E) R F) :
    Calls Try.prog 35 #[.pointer (some ⟨q + 3, 0, none⟩), .pointer (some ⟨g, o, none⟩)] wr fun e w' => e = .returned (.tuple #[]) ∧ Hid (∃ nt' nv' uv' acc' fs' R' F', Fw W w' q nt' nb nv' sv uv' acc' acc' cb f ss fs' K ∧ Lf W q nt' nb acc' f fs' ss cb ext E R' F' ∧ R' + 6 ≤ R + wkF d x ∧ F' acc' = F (freeX d cb acc x)) := by
  cases d with
  | zero => exact hx.elim
  | succ d =>
    obtain ⟨ve, vc, f1, f2, rfl, rfl, o1, o2⟩ := hx
    have hz1 : x.S.size + szRow (szX d) x.E + szRow (ClF (szX d)) x.C ≤ 1048576 := hz
    have n1 : x.E.length ≤ szRow (szX d) x.E := Nat.le_add_right _ _
    have n2 : x.C.length ≤ szRow (ClF (szX d)) x.C := Nat.le_add_right _ _
    obtain ⟨a3, c3, rfl⟩ := own_len o1
    obtain ⟨a4, c4, rfl⟩ := own_len o2
    obtain ⟨cur, t, hrow, hcur⟩ := hcell
    have hA : Row5 W g o x.K x.N x.S (.slice a3 x.E.length c3) (.slice a4 x.C.length c4) := ⟨cur, t, hrow, hcur 0 _ rfl, hcur 1 _ rfl, hcur 2 _ rfl, hcur 3 _ rfl, hcur 4 _ rfl⟩
    have HCE : Hid (∀ V : World, Below q W V → At5 V g o x.K x.N x.S (.slice a3 x.E.length c3) (.slice a4 x.C.length c4)) := fun V hV => hA.at (hV.block _ hg)
    have HFI : Hid (∀ nt' nv' uv' w', nt' ≤ nt + 1 → Fw W w' q nt' nb nv' sv uv' (tellX cb acc x.K x.S) (tellX cb acc x.K x.S) cb f ss ((if 0 < x.E.length then [((.slice a3 x.E.length c3 : Value), (.slice none 0 0 : Value), 0)] else []) ++ ((if 0 < x.C.length then [((.slice none 0 0 : Value), (.slice a4 x.C.length c4 : Value), 0)] else []) ++ fs)) K → ∃ nt' nv' uv' acc' fs' R' F', Fw W w' q nt' nb nv' sv uv' acc' acc' cb f ss fs' K ∧ Lf W q nt' nb acc' f fs' ss cb ext E R' F' ∧ R' + 6 ≤ R + wkF (d + 1) x ∧ F' acc' = F (freeX (d + 1) cb acc x)) := fun nt' nv' uv' w' hn hw => by
      obtain ⟨R', F', q1, q2, q3⟩ := hL.come o1 o2 hz hn
      exact ⟨nt', nv', uv', _, _, R', F', hw, q1, q2, q3⟩
    have hb5 : nt ≤ 20000000 ∧ acc.length ≤ 20000000 ∧ fs.length + 2 ≤ 30000000 := by
      obtain ⟨rs, q1, _, _, _, q5⟩ := hL
      have := q1.few
      exact ⟨by omega, by omega, by omega⟩
    have HFS : Hid (fs.length + 2 ≤ 30000000) := hb5.2.2
    obtain ⟨PST, hPST⟩ : ∃ P : World → Prop, P = fun w' => ∃ nt' nv' uv' acc' fs' R' F', Fw W w' q nt' nb nv' sv uv' acc' acc' cb f ss fs' K ∧ Lf W q nt' nb acc' f fs' ss cb ext E R' F' ∧ R' + 6 ≤ R + wkF (d + 1) x ∧ F' acc' = F (freeX (d + 1) cb acc x) := ⟨_, rfl⟩
    have hP2 : ∀ w', (∃ nt' nv' uv' acc' fs' R' F', Fw W w' q nt' nb nv' sv uv' acc' acc' cb f ss fs' K ∧ Lf W q nt' nb acc' f fs' ss cb ext E R' F' ∧ R' + 6 ≤ R + wkF (d + 1) x ∧ F' acc' = F (freeX (d + 1) cb acc x)) = PST w' := fun w' => by rw [hPST]
    simp only [hP2] at HFI ⊢
    obtain ⟨lE, hlE⟩ : ∃ l, x.E.length = l := ⟨_, rfl⟩
    obtain ⟨lC, hlC⟩ : ∃ l, x.C.length = l := ⟨_, rfl⟩
    obtain ⟨kk, hkk⟩ : ∃ k, x.K = k := ⟨_, rfl⟩
    obtain ⟨nn, hnn⟩ : ∃ k, x.N = k := ⟨_, rfl⟩
    obtain ⟨S, hS⟩ : ∃ k, x.S = k := ⟨_, rfl⟩
    rw [hlE, hlC, hkk, hS] at HFI
    rw [hlE, hlC, hkk, hnn, hS] at HCE
    have hSz : S.size ≤ 1048576 := by rw [← hS]; omega
    have hlE1 : lE ≤ 1048576 := by omega
    have hlC1 : lC ≤ 1048576 := by omega
    obtain ⟨ua, uc, huv⟩ := h.few.2.2
    obtain ⟨un, hun⟩ : ∃ n, fs.length = n := ⟨_, rfl⟩
    have HUN : Hid (fs.length = un) := hun
    have hun1 : un + 2 ≤ 30000000 := by omega
    rw [hun] at huv
    subst huv
    obtain ⟨j0, hj, hj0, hj1, hj2⟩ := info_parts Try.infoStay
    obtain ⟨x0, x1, x2, x3, x4⟩ := HCE.out wr h.bel
    by_cases hK : kk = 3
    · subst hK
      have hC := tell_any h S hSz (by omega) (by omega)
      obtain ⟨ACC, hACC⟩ : ∃ A, tellX cb acc 3 S = A := ⟨_, rfl⟩
      rw [hACC] at hC HFI
      clear h hL o1 o2 hz hz1 n1 n2 hrow hcur hA hlE hlC hkk hnn hS hun hb5 hACC hPST hP2
      go_enter Try.func35, Try.ntmps35
      go_wp2_with fail
      refine hC.mono ?_
      clear hC x0 x1 x2 x3 x4
      rintro _ w1 ⟨rfl, HT⟩
      obtain ⟨nt1, nv1, hn1, hF1⟩ := HT.out
      have HF1 : Hid (Fw W w1 q nt1 nb nv1 sv _ ACC ACC cb f ss fs K) := hF1
      clear HT hF1
      obtain ⟨x0, x1, x2, x3, x4⟩ := HCE.out w1 HF1.out.bel
      obtain ⟨_, _, _, _, _, u5, _⟩ := HF1.out.cells
      by_cases hC : lC = 0
      · subst hC
        have HFIN : Hid (∀ nt' nv' uv' w', nt' ≤ nt + 1 → Fw W w' q nt' nb nv' sv uv' ACC ACC cb f ss ((if 0 < lE then [((.slice a3 lE c3 : Value), (.slice none 0 0 : Value), 0)] else []) ++ fs) K → _) := fun nt' nv' uv' w' h1 h2 => HFI.out nt' nv' uv' w' h1 (by simpa using h2)
        clear HFI
        by_cases hE : lE = 0
        · have HX2 : Hid _ := HFIN.out _ _ _ w1 hn1 (by rw [if_neg (by omega)]; exact HF1.out)
          subst hE
          clear HFIN
          go_wp2_with fail
          go_end0
          exact ⟨rfl, HX2.out⟩
        · have hE' : (0 : Int) < (lE : Int) := by omega
          have HFI2 : Hid (∀ uv' w', Fw W w' q nt1 nb nv1 sv uv' ACC ACC cb f ss ((.slice a3 lE c3, .slice none 0 0, 0) :: fs) K → PST w') := fun uv' w' h => HFIN.out _ _ uv' w' hn1 (by rw [if_pos (show 0 < lE by omega)]; exact h)
          have HROW : Hid ((World.drew w1).ownsRow (q + 4) 109 3 (.slice ua un uc) un (ucells (fs))) := by
            have := HF1.out.und
            rw [HUN.out] at this
            exact this
          clear HFIN hE
          go_wp2_with fail
          have u5a : ((World.drew w1).alloc (.cells #[(.slice a3 lE c3), .slice none 0 0, .int .i64 0] 109)).cell? ⟨q + 3, 5, none⟩ = some (.slice ua un uc) := cell_later ((Below.refl _ _).drew.alloc (Nat.le_refl _) _) u5
          refine wp_region_any (by kernel_rfl) ?_
          change wpAny _ _ _ _ _ _ _ (World.drew _)
          generalize hA0 : (Act.mk _ _) = A0
          have z0 : A0.tmps.size = 55 := by rw [← hA0]; rfl
          have e0_0 : A0.eval (.tmp 0) = (.pointer (some ⟨q + 3, 0, none⟩)) := by rw [← hA0]; rfl
          have e1_0 : A0.eval (.tmp 1) = (.pointer (some ⟨g, o, none⟩)) := by rw [← hA0]; rfl
          refine wpAny_take (i := 0) (v := (.pointer (some ⟨q + 3, 0, none⟩))) rfl (by kernel_rfl) (by kernel_rfl) (by kernel_rfl) (fun _ _ _ h => h) (Or.inl ⟨rfl, fun w => ?_⟩) ?_
          · rw [BigFrame.run_move (.tmp 0) rfl w, e0_0]
          change wpAny _ _ _ _ _ _ (Act.put A0 (some 41) ((.pointer (some ⟨q + 3, 0, none⟩)))) _
          generalize hA1 : Act.put A0 (some 41) ((.pointer (some ⟨q + 3, 0, none⟩))) = A1
          have z1 : A1.tmps.size = 55 := by rw [← hA1, put_size]; exact z0
          have e0_1 : A1.eval (.tmp 0) = (.pointer (some ⟨q + 3, 0, none⟩)) := by rw [← hA1, put_ne (by decide)]; exact e0_0
          have e1_1 : A1.eval (.tmp 1) = (.pointer (some ⟨g, o, none⟩)) := by rw [← hA1, put_ne (by decide)]; exact e1_0
          have e41_1 : A1.eval (.tmp 41) = (.pointer (some ⟨q + 3, 0, none⟩)) := by rw [← hA1]; exact put_same (by rw [z0]; decide)
          clear e0_0 e1_0 z0
          refine wpAny_take (i := 1) (v := (.pointer (some ⟨q + 3, 0, none⟩))) rfl (by kernel_rfl) (by kernel_rfl) (by kernel_rfl) (fun _ _ _ h => h) (Or.inl ⟨rfl, fun w => ?_⟩) ?_
          · rw [BigFrame.run_move (.tmp 0) rfl w, e0_1]
          change wpAny _ _ _ _ _ _ (Act.put A1 (some 42) ((.pointer (some ⟨q + 3, 0, none⟩)))) _
          generalize hA2 : Act.put A1 (some 42) ((.pointer (some ⟨q + 3, 0, none⟩))) = A2
          have z2 : A2.tmps.size = 55 := by rw [← hA2, put_size]; exact z1
          have e0_2 : A2.eval (.tmp 0) = (.pointer (some ⟨q + 3, 0, none⟩)) := by rw [← hA2, put_ne (by decide)]; exact e0_1
          have e1_2 : A2.eval (.tmp 1) = (.pointer (some ⟨g, o, none⟩)) := by rw [← hA2, put_ne (by decide)]; exact e1_1
          have e41_2 : A2.eval (.tmp 41) = (.pointer (some ⟨q + 3, 0, none⟩)) := by rw [← hA2, put_ne (by decide)]; exact e41_1
          have e42_2 : A2.eval (.tmp 42) = (.pointer (some ⟨q + 3, 0, none⟩)) := by rw [← hA2]; exact put_same (by rw [z1]; decide)
          clear e0_1 e1_1 e41_1 z1
          refine wpAny_take (i := 2) (v := (.pointer (some ⟨q + 3, 0, none⟩))) rfl (by kernel_rfl) (by kernel_rfl) (by kernel_rfl) (fun _ _ _ h => h) (Or.inl ⟨rfl, fun w => ?_⟩) ?_
          · exact run_nilCheck rfl e42_2 w
          change wpAny _ _ _ _ _ _ (Act.put A2 (some 43) ((.pointer (some ⟨q + 3, 0, none⟩)))) _
          generalize hA3 : Act.put A2 (some 43) ((.pointer (some ⟨q + 3, 0, none⟩))) = A3
          have z3 : A3.tmps.size = 55 := by rw [← hA3, put_size]; exact z2
          have e0_3 : A3.eval (.tmp 0) = (.pointer (some ⟨q + 3, 0, none⟩)) := by rw [← hA3, put_ne (by decide)]; exact e0_2
          have e1_3 : A3.eval (.tmp 1) = (.pointer (some ⟨g, o, none⟩)) := by rw [← hA3, put_ne (by decide)]; exact e1_2
          have e41_3 : A3.eval (.tmp 41) = (.pointer (some ⟨q + 3, 0, none⟩)) := by rw [← hA3, put_ne (by decide)]; exact e41_2
          have e42_3 : A3.eval (.tmp 42) = (.pointer (some ⟨q + 3, 0, none⟩)) := by rw [← hA3, put_ne (by decide)]; exact e42_2
          have e43_3 : A3.eval (.tmp 43) = (.pointer (some ⟨q + 3, 0, none⟩)) := by rw [← hA3]; exact put_same (by rw [z2]; decide)
          clear e0_2 e1_2 e41_2 e42_2 z2
          refine wpAny_take (i := 3) (v := (.pointer (some ⟨q + 3, 5, none⟩))) rfl (by kernel_rfl) (by kernel_rfl) (by kernel_rfl) (fun _ _ _ h => h) (Or.inl ⟨rfl, fun w => ?_⟩) ?_
          · exact run_fieldAddr (Try.fieldU _ _) rfl e43_3 w
          change wpAny _ _ _ _ _ _ (Act.put A3 (some 44) ((.pointer (some ⟨q + 3, 5, none⟩)))) _
          generalize hA4 : Act.put A3 (some 44) ((.pointer (some ⟨q + 3, 5, none⟩))) = A4
          have z4 : A4.tmps.size = 55 := by rw [← hA4, put_size]; exact z3
          have e0_4 : A4.eval (.tmp 0) = (.pointer (some ⟨q + 3, 0, none⟩)) := by rw [← hA4, put_ne (by decide)]; exact e0_3
          have e1_4 : A4.eval (.tmp 1) = (.pointer (some ⟨g, o, none⟩)) := by rw [← hA4, put_ne (by decide)]; exact e1_3
          have e41_4 : A4.eval (.tmp 41) = (.pointer (some ⟨q + 3, 0, none⟩)) := by rw [← hA4, put_ne (by decide)]; exact e41_3
          have e42_4 : A4.eval (.tmp 42) = (.pointer (some ⟨q + 3, 0, none⟩)) := by rw [← hA4, put_ne (by decide)]; exact e42_3
          have e43_4 : A4.eval (.tmp 43) = (.pointer (some ⟨q + 3, 0, none⟩)) := by rw [← hA4, put_ne (by decide)]; exact e43_3
          have e44_4 : A4.eval (.tmp 44) = (.pointer (some ⟨q + 3, 5, none⟩)) := by rw [← hA4]; exact put_same (by rw [z3]; decide)
          clear e0_3 e1_3 e41_3 e42_3 e43_3 z3
          refine wpAny_take (i := 5) (v := (.pointer (some ⟨g, o, none⟩))) rfl (by kernel_rfl) (by kernel_rfl) (by kernel_rfl) (fun _ _ _ h => h) (Or.inl ⟨rfl, fun w => ?_⟩) ?_
          · rw [BigFrame.run_move (.tmp 1) rfl w, e1_4]
          change wpAny _ _ _ _ _ _ (Act.put A4 (some 46) ((.pointer (some ⟨g, o, none⟩)))) _
          generalize hA5 : Act.put A4 (some 46) ((.pointer (some ⟨g, o, none⟩))) = A5
          have z5 : A5.tmps.size = 55 := by rw [← hA5, put_size]; exact z4
          have e0_5 : A5.eval (.tmp 0) = (.pointer (some ⟨q + 3, 0, none⟩)) := by rw [← hA5, put_ne (by decide)]; exact e0_4
          have e1_5 : A5.eval (.tmp 1) = (.pointer (some ⟨g, o, none⟩)) := by rw [← hA5, put_ne (by decide)]; exact e1_4
          have e41_5 : A5.eval (.tmp 41) = (.pointer (some ⟨q + 3, 0, none⟩)) := by rw [← hA5, put_ne (by decide)]; exact e41_4
          have e42_5 : A5.eval (.tmp 42) = (.pointer (some ⟨q + 3, 0, none⟩)) := by rw [← hA5, put_ne (by decide)]; exact e42_4
          have e43_5 : A5.eval (.tmp 43) = (.pointer (some ⟨q + 3, 0, none⟩)) := by rw [← hA5, put_ne (by decide)]; exact e43_4
          have e44_5 : A5.eval (.tmp 44) = (.pointer (some ⟨q + 3, 5, none⟩)) := by rw [← hA5, put_ne (by decide)]; exact e44_4
          have e46_5 : A5.eval (.tmp 46) = (.pointer (some ⟨g, o, none⟩)) := by rw [← hA5]; exact put_same (by rw [z4]; decide)
          clear e0_4 e1_4 e41_4 e42_4 e43_4 e44_4 z4
          refine wpAny_take (i := 6) (v := (.pointer (some ⟨g, o, none⟩))) rfl (by kernel_rfl) (by kernel_rfl) (by kernel_rfl) (fun _ _ _ h => h) (Or.inl ⟨rfl, fun w => ?_⟩) ?_
          · exact run_nilCheck rfl e46_5 w
          change wpAny _ _ _ _ _ _ (Act.put A5 (some 47) ((.pointer (some ⟨g, o, none⟩)))) _
          generalize hA6 : Act.put A5 (some 47) ((.pointer (some ⟨g, o, none⟩))) = A6
          have z6 : A6.tmps.size = 55 := by rw [← hA6, put_size]; exact z5
          have e0_6 : A6.eval (.tmp 0) = (.pointer (some ⟨q + 3, 0, none⟩)) := by rw [← hA6, put_ne (by decide)]; exact e0_5
          have e1_6 : A6.eval (.tmp 1) = (.pointer (some ⟨g, o, none⟩)) := by rw [← hA6, put_ne (by decide)]; exact e1_5
          have e41_6 : A6.eval (.tmp 41) = (.pointer (some ⟨q + 3, 0, none⟩)) := by rw [← hA6, put_ne (by decide)]; exact e41_5
          have e42_6 : A6.eval (.tmp 42) = (.pointer (some ⟨q + 3, 0, none⟩)) := by rw [← hA6, put_ne (by decide)]; exact e42_5
          have e43_6 : A6.eval (.tmp 43) = (.pointer (some ⟨q + 3, 0, none⟩)) := by rw [← hA6, put_ne (by decide)]; exact e43_5
          have e44_6 : A6.eval (.tmp 44) = (.pointer (some ⟨q + 3, 5, none⟩)) := by rw [← hA6, put_ne (by decide)]; exact e44_5
          have e46_6 : A6.eval (.tmp 46) = (.pointer (some ⟨g, o, none⟩)) := by rw [← hA6, put_ne (by decide)]; exact e46_5
          have e47_6 : A6.eval (.tmp 47) = (.pointer (some ⟨g, o, none⟩)) := by rw [← hA6]; exact put_same (by rw [z5]; decide)
          clear e0_5 e1_5 e41_5 e42_5 e43_5 e44_5 e46_5 z5
          refine wpAny_take (i := 7) (v := (.pointer (some ⟨g, o + 3, none⟩))) rfl (by kernel_rfl) (by kernel_rfl) (by kernel_rfl) (fun _ _ _ h => h) (Or.inl ⟨rfl, fun w => ?_⟩) ?_
          · exact run_fieldAddr (Try.fieldX3 _ _) rfl e47_6 w
          change wpAny _ _ _ _ _ _ (Act.put A6 (some 48) ((.pointer (some ⟨g, o + 3, none⟩)))) _
          generalize hA7 : Act.put A6 (some 48) ((.pointer (some ⟨g, o + 3, none⟩))) = A7
          have z7 : A7.tmps.size = 55 := by rw [← hA7, put_size]; exact z6
          have e0_7 : A7.eval (.tmp 0) = (.pointer (some ⟨q + 3, 0, none⟩)) := by rw [← hA7, put_ne (by decide)]; exact e0_6
          have e1_7 : A7.eval (.tmp 1) = (.pointer (some ⟨g, o, none⟩)) := by rw [← hA7, put_ne (by decide)]; exact e1_6
          have e41_7 : A7.eval (.tmp 41) = (.pointer (some ⟨q + 3, 0, none⟩)) := by rw [← hA7, put_ne (by decide)]; exact e41_6
          have e42_7 : A7.eval (.tmp 42) = (.pointer (some ⟨q + 3, 0, none⟩)) := by rw [← hA7, put_ne (by decide)]; exact e42_6
          have e43_7 : A7.eval (.tmp 43) = (.pointer (some ⟨q + 3, 0, none⟩)) := by rw [← hA7, put_ne (by decide)]; exact e43_6
          have e44_7 : A7.eval (.tmp 44) = (.pointer (some ⟨q + 3, 5, none⟩)) := by rw [← hA7, put_ne (by decide)]; exact e44_6
          have e46_7 : A7.eval (.tmp 46) = (.pointer (some ⟨g, o, none⟩)) := by rw [← hA7, put_ne (by decide)]; exact e46_6
          have e47_7 : A7.eval (.tmp 47) = (.pointer (some ⟨g, o, none⟩)) := by rw [← hA7, put_ne (by decide)]; exact e47_6
          have e48_7 : A7.eval (.tmp 48) = (.pointer (some ⟨g, o + 3, none⟩)) := by rw [← hA7]; exact put_same (by rw [z6]; decide)
          clear e0_6 e1_6 e41_6 e42_6 e43_6 e44_6 e46_6 e47_6 z6
          refine wpAny_inter (s4 := 44) (s8 := 48) (d4 := 45) (d8 := 49) (d9 := 50) (d10 := 51) (v4 := .slice ua un uc) (v8 := (.slice a3 lE c3)) (v9 := (.agg #[(.slice a3 lE c3), .slice none 0 0, .int .i64 0])) (v10 := .slice (some ⟨w1.heap.size, 0, none⟩) 1 1) (w' := (World.drew w1).alloc (.cells #[(.slice a3 lE c3), .slice none 0 0, .int .i64 0] 109)) rfl rfl rfl rfl (by rw [z7]; decide) (by decide) (by kernel_rfl) (by kernel_rfl) (by kernel_rfl) (by kernel_rfl) (by kernel_rfl) (by kernel_rfl) (by kernel_rfl) ⟨rfl, rfl⟩ ⟨rfl, rfl⟩ ⟨rfl, rfl⟩ ⟨rfl, rfl⟩ e44_7 e48_7 (fun b hb => run_load (Try.loadU _ _ _ _ _ u5) rfl hb) (fun b hb => run_load (Try.loadU _ _ _ _ _ u5a) rfl hb) (fun b hb => run_load (Try.load3 _ _ _ _ _ x3) rfl hb) (fun b hb => run_build (Try.build3 _ _ _) rfl hb _) (fun b hb => run_buildSlice (Try.buildU3 _ _ _ _) rfl hb) ?_
          generalize hA8 : Act.put A7 (some 45) (.slice ua un uc) = A8
          have z8 : A8.tmps.size = 55 := by rw [← hA8, put_size]; exact z7
          have e41_8 : A8.eval (.tmp 41) = (.pointer (some ⟨q + 3, 0, none⟩)) := by rw [← hA8, put_ne (by decide)]; exact e41_7
          have e45_8 : A8.eval (.tmp 45) = .slice ua un uc := by rw [← hA8]; exact put_same (by rw [z7]; decide)
          clear e0_7 e1_7 e41_7 e42_7 e43_7 e44_7 e46_7 e47_7 e48_7 z7
          generalize hA9 : Act.put A8 (some 49) ((.slice a3 lE c3)) = A9
          have z9 : A9.tmps.size = 55 := by rw [← hA9, put_size]; exact z8
          have e41_9 : A9.eval (.tmp 41) = (.pointer (some ⟨q + 3, 0, none⟩)) := by rw [← hA9, put_ne (by decide)]; exact e41_8
          have e45_9 : A9.eval (.tmp 45) = .slice ua un uc := by rw [← hA9, put_ne (by decide)]; exact e45_8
          have e49_9 : A9.eval (.tmp 49) = (.slice a3 lE c3) := by rw [← hA9]; exact put_same (by rw [z8]; decide)
          clear e41_8 e45_8 z8
          generalize hA10 : Act.put A9 (some 50) ((.agg #[(.slice a3 lE c3), .slice none 0 0, .int .i64 0])) = A10
          have z10 : A10.tmps.size = 55 := by rw [← hA10, put_size]; exact z9
          have e41_10 : A10.eval (.tmp 41) = (.pointer (some ⟨q + 3, 0, none⟩)) := by rw [← hA10, put_ne (by decide)]; exact e41_9
          have e45_10 : A10.eval (.tmp 45) = .slice ua un uc := by rw [← hA10, put_ne (by decide)]; exact e45_9
          have e50_10 : A10.eval (.tmp 50) = (.agg #[(.slice a3 lE c3), .slice none 0 0, .int .i64 0]) := by rw [← hA10]; exact put_same (by rw [z9]; decide)
          clear e41_9 e45_9 e49_9 z9
          generalize hA11 : Act.put A10 (some 51) ((.slice (some ⟨w1.heap.size, 0, none⟩) 1 1)) = A11
          have z11 : A11.tmps.size = 55 := by rw [← hA11, put_size]; exact z10
          have e41_11 : A11.eval (.tmp 41) = (.pointer (some ⟨q + 3, 0, none⟩)) := by rw [← hA11, put_ne (by decide)]; exact e41_10
          have e45_11 : A11.eval (.tmp 45) = .slice ua un uc := by rw [← hA11, put_ne (by decide)]; exact e45_10
          have e51_11 : A11.eval (.tmp 51) = (.slice (some ⟨w1.heap.size, 0, none⟩) 1 1) := by rw [← hA11]; exact put_same (by rw [z10]; decide)
          clear e41_10 e45_10 e50_10 z10
          refine wpAny_ready (rs := [11]) (by kernel_rfl) (by simp) ?_
          refine AllReady.cons rfl (fun K hK => ?_) AllReady.nil
          refine step_append_own rfl (.tmp 45) (.tmp 51) 65 rfl (q + 4) 109 j0 (.agg #[.slice none 0 0, .slice none 0 0, .int .i64 0]) 3 56 Try.underlying65 hj hj0 hj1 hj2 rfl (by decide) (.slice ua un uc) un _ e45_11 (HROW.out.alloc _) ⟨w1.heap.size, 0, none⟩ 1 1 [(.slice a3 lE c3), .slice none 0 0, .int .i64 0] e51_11 rfl (three_put (World.drew w1) _ _ _ _) (by intro u hu; simp at hu; rcases hu with rfl | rfl | rfl <;> rfl) (by unfold maxLen; omega) (by omega) (by have := HF1.out.sz; simp; omega) ?_
          intro v' X hown5 hgrow5 hat5
          refine hK _ _ ?_
          clear hK K
          have HXF : Hid _ := (HF1.out.later ((Below.refl _ _).drew.alloc (Nat.le_refl _) (.cells #[(.slice a3 lE c3), .slice none 0 0, .int .i64 0] 109))).put_und (fs' := ((.slice a3 lE c3), .slice none 0 0, 0) :: fs) (by rw [ucells_cons]; have := hown5; rw [← HUN.out] at this; exact this) hgrow5 hat5
          have hr5 := (HF1.out.later ((Below.refl _ _).drew.alloc (Nat.le_refl _) (.cells #[(.slice a3 lE c3), .slice none 0 0, .int .i64 0] 109))).rowTo_und hgrow5
          have hc5 : X.cell? ⟨q + 3, 5, none⟩ = some (.slice ua un uc) := by rw [cell_of_row X _ 5 _ _ _ hr5]; rfl
          have hz5 : X.frozen? ⟨q + 3, 5, none⟩ = false := frozen_of_row X _ _ _ _ hr5
          obtain ⟨va, vl, vc', rfl⟩ := row_slice hown5
          clear hown5 hgrow5 hat5 hr5
          change wpAny _ _ _ _ _ _ (Act.put A11 (some 52) (.slice va vl vc')) _
          generalize hA12 : Act.put A11 (some 52) (.slice va vl vc') = A12
          have z12 : A12.tmps.size = 55 := by rw [← hA12, put_size]; exact z11
          have e41_12 : A12.eval (.tmp 41) = (.pointer (some ⟨q + 3, 0, none⟩)) := by rw [← hA12, put_ne (by decide)]; exact e41_11
          have e52_12 : A12.eval (.tmp 52) = .slice va vl vc' := by rw [← hA12]; exact put_same (by rw [z11]; decide)
          clear e41_11 e45_11 e51_11 z11
          refine wpAny_take (i := 12) (v := (.pointer (some ⟨q + 3, 0, none⟩))) rfl (by kernel_rfl) (by kernel_rfl) (by kernel_rfl) (fun _ _ _ h => h) (Or.inl ⟨rfl, fun w => ?_⟩) ?_
          · exact run_nilCheck rfl e41_12 w
          change wpAny _ _ _ _ _ _ (Act.put A12 (some 53) ((.pointer (some ⟨q + 3, 0, none⟩)))) _
          generalize hA13 : Act.put A12 (some 53) ((.pointer (some ⟨q + 3, 0, none⟩))) = A13
          have z13 : A13.tmps.size = 55 := by rw [← hA13, put_size]; exact z12
          have e52_13 : A13.eval (.tmp 52) = .slice va vl vc' := by rw [← hA13, put_ne (by decide)]; exact e52_12
          have e53_13 : A13.eval (.tmp 53) = (.pointer (some ⟨q + 3, 0, none⟩)) := by rw [← hA13]; exact put_same (by rw [z12]; decide)
          clear e41_12 e52_12 z12
          refine wpAny_take (i := 13) (v := (.pointer (some ⟨q + 3, 5, none⟩))) rfl (by kernel_rfl) (by kernel_rfl) (by kernel_rfl) (fun _ _ _ h => h) (Or.inl ⟨rfl, fun w => ?_⟩) ?_
          · exact run_fieldAddr (Try.fieldU _ _) rfl e53_13 w
          change wpAny _ _ _ _ _ _ (Act.put A13 (some 54) ((.pointer (some ⟨q + 3, 5, none⟩)))) _
          generalize hA14 : Act.put A13 (some 54) ((.pointer (some ⟨q + 3, 5, none⟩))) = A14
          have z14 : A14.tmps.size = 55 := by rw [← hA14, put_size]; exact z13
          have e52_14 : A14.eval (.tmp 52) = .slice va vl vc' := by rw [← hA14, put_ne (by decide)]; exact e52_13
          have e54_14 : A14.eval (.tmp 54) = (.pointer (some ⟨q + 3, 5, none⟩)) := by rw [← hA14]; exact put_same (by rw [z13]; decide)
          clear e52_13 e53_13 z13
          refine wpAny_ready (rs := [14]) (by kernel_rfl) (by simp) ?_
          refine AllReady.cons rfl (fun K hK => ?_) AllReady.nil
          refine step_skip rfl (run_store (Try.storeU _ _ _ _ _ _ _ _ hc5 hz5) rfl e54_14 e52_14) (hK _ _ ?_)
          clear hK K hc5 hz5
          change wpAny _ _ _ _ _ _ A14 _
          refine wpAny_done (by kernel_rfl) ?_ _
          clear e54_14 e52_14 z14
          subst hA14 hA13 hA12 hA11 hA10 hA9 hA8 hA7 hA6 hA5 hA4 hA3 hA2 hA1 hA0
          simp only [Act.put, List.setIfInBounds_toArray, List.set_cons_zero, List.set_cons_succ]

          have HX2 : Hid _ := HFI2.out _ _ HXF.out
          clear HXF HFI2
          go_wp2_with fail
          go_end0
          exact ⟨rfl, HX2.out⟩

      · have hC' : (0 : Int) < (lC : Int) := by omega
        have HFIN : Hid (∀ nt' nv' uv' w', nt' ≤ nt + 1 → Fw W w' q nt' nb nv' sv uv' ACC ACC cb f ss ((if 0 < lE then [((.slice a3 lE c3 : Value), (.slice none 0 0 : Value), 0)] else []) ++ ((.slice none 0 0, .slice a4 lC c4, 0) :: fs)) K → _) := fun nt' nv' uv' w' h1 h2 => HFI.out nt' nv' uv' w' h1 (by rw [if_pos (show 0 < lC by omega)]; exact h2)
        have HROW : Hid ((World.drew w1).ownsRow (q + 4) 109 3 (.slice ua un uc) un (ucells fs)) := by
          have := HF1.out.und
          rw [HUN.out] at this
          exact this
        clear HFI hC
        go_wp2_with fail
        have u5a : ((World.drew w1).alloc (.cells #[.slice none 0 0, (.slice a4 lC c4), .int .i64 0] 109)).cell? ⟨q + 3, 5, none⟩ = some (.slice ua un uc) := cell_later ((Below.refl _ _).drew.alloc (Nat.le_refl _) _) u5
        refine wp_region_any (by kernel_rfl) ?_
        change wpAny _ _ _ _ _ _ _ (World.drew _)
        generalize hA0 : (Act.mk _ _) = A0
        have z0 : A0.tmps.size = 55 := by rw [← hA0]; rfl
        have e0_0 : A0.eval (.tmp 0) = (.pointer (some ⟨q + 3, 0, none⟩)) := by rw [← hA0]; rfl
        have e1_0 : A0.eval (.tmp 1) = (.pointer (some ⟨g, o, none⟩)) := by rw [← hA0]; rfl
        refine wpAny_take (i := 0) (v := (.pointer (some ⟨q + 3, 0, none⟩))) rfl (by kernel_rfl) (by kernel_rfl) (by kernel_rfl) (fun _ _ _ h => h) (Or.inl ⟨rfl, fun w => ?_⟩) ?_
        · rw [BigFrame.run_move (.tmp 0) rfl w, e0_0]
        change wpAny _ _ _ _ _ _ (Act.put A0 (some 21) ((.pointer (some ⟨q + 3, 0, none⟩)))) _
        generalize hA1 : Act.put A0 (some 21) ((.pointer (some ⟨q + 3, 0, none⟩))) = A1
        have z1 : A1.tmps.size = 55 := by rw [← hA1, put_size]; exact z0
        have e0_1 : A1.eval (.tmp 0) = (.pointer (some ⟨q + 3, 0, none⟩)) := by rw [← hA1, put_ne (by decide)]; exact e0_0
        have e1_1 : A1.eval (.tmp 1) = (.pointer (some ⟨g, o, none⟩)) := by rw [← hA1, put_ne (by decide)]; exact e1_0
        have e21_1 : A1.eval (.tmp 21) = (.pointer (some ⟨q + 3, 0, none⟩)) := by rw [← hA1]; exact put_same (by rw [z0]; decide)
        clear e0_0 e1_0 z0
        refine wpAny_take (i := 1) (v := (.pointer (some ⟨q + 3, 0, none⟩))) rfl (by kernel_rfl) (by kernel_rfl) (by kernel_rfl) (fun _ _ _ h => h) (Or.inl ⟨rfl, fun w => ?_⟩) ?_
        · rw [BigFrame.run_move (.tmp 0) rfl w, e0_1]
        change wpAny _ _ _ _ _ _ (Act.put A1 (some 22) ((.pointer (some ⟨q + 3, 0, none⟩)))) _
        generalize hA2 : Act.put A1 (some 22) ((.pointer (some ⟨q + 3, 0, none⟩))) = A2
        have z2 : A2.tmps.size = 55 := by rw [← hA2, put_size]; exact z1
        have e0_2 : A2.eval (.tmp 0) = (.pointer (some ⟨q + 3, 0, none⟩)) := by rw [← hA2, put_ne (by decide)]; exact e0_1
        have e1_2 : A2.eval (.tmp 1) = (.pointer (some ⟨g, o, none⟩)) := by rw [← hA2, put_ne (by decide)]; exact e1_1
        have e21_2 : A2.eval (.tmp 21) = (.pointer (some ⟨q + 3, 0, none⟩)) := by rw [← hA2, put_ne (by decide)]; exact e21_1
        have e22_2 : A2.eval (.tmp 22) = (.pointer (some ⟨q + 3, 0, none⟩)) := by rw [← hA2]; exact put_same (by rw [z1]; decide)
        clear e0_1 e1_1 e21_1 z1
        refine wpAny_take (i := 2) (v := (.pointer (some ⟨q + 3, 0, none⟩))) rfl (by kernel_rfl) (by kernel_rfl) (by kernel_rfl) (fun _ _ _ h => h) (Or.inl ⟨rfl, fun w => ?_⟩) ?_
        · exact run_nilCheck rfl e22_2 w
        change wpAny _ _ _ _ _ _ (Act.put A2 (some 23) ((.pointer (some ⟨q + 3, 0, none⟩)))) _
        generalize hA3 : Act.put A2 (some 23) ((.pointer (some ⟨q + 3, 0, none⟩))) = A3
        have z3 : A3.tmps.size = 55 := by rw [← hA3, put_size]; exact z2
        have e0_3 : A3.eval (.tmp 0) = (.pointer (some ⟨q + 3, 0, none⟩)) := by rw [← hA3, put_ne (by decide)]; exact e0_2
        have e1_3 : A3.eval (.tmp 1) = (.pointer (some ⟨g, o, none⟩)) := by rw [← hA3, put_ne (by decide)]; exact e1_2
        have e21_3 : A3.eval (.tmp 21) = (.pointer (some ⟨q + 3, 0, none⟩)) := by rw [← hA3, put_ne (by decide)]; exact e21_2
        have e22_3 : A3.eval (.tmp 22) = (.pointer (some ⟨q + 3, 0, none⟩)) := by rw [← hA3, put_ne (by decide)]; exact e22_2
        have e23_3 : A3.eval (.tmp 23) = (.pointer (some ⟨q + 3, 0, none⟩)) := by rw [← hA3]; exact put_same (by rw [z2]; decide)
        clear e0_2 e1_2 e21_2 e22_2 z2
        refine wpAny_take (i := 3) (v := (.pointer (some ⟨q + 3, 5, none⟩))) rfl (by kernel_rfl) (by kernel_rfl) (by kernel_rfl) (fun _ _ _ h => h) (Or.inl ⟨rfl, fun w => ?_⟩) ?_
        · exact run_fieldAddr (Try.fieldU _ _) rfl e23_3 w
        change wpAny _ _ _ _ _ _ (Act.put A3 (some 24) ((.pointer (some ⟨q + 3, 5, none⟩)))) _
        generalize hA4 : Act.put A3 (some 24) ((.pointer (some ⟨q + 3, 5, none⟩))) = A4
        have z4 : A4.tmps.size = 55 := by rw [← hA4, put_size]; exact z3
        have e0_4 : A4.eval (.tmp 0) = (.pointer (some ⟨q + 3, 0, none⟩)) := by rw [← hA4, put_ne (by decide)]; exact e0_3
        have e1_4 : A4.eval (.tmp 1) = (.pointer (some ⟨g, o, none⟩)) := by rw [← hA4, put_ne (by decide)]; exact e1_3
        have e21_4 : A4.eval (.tmp 21) = (.pointer (some ⟨q + 3, 0, none⟩)) := by rw [← hA4, put_ne (by decide)]; exact e21_3
        have e22_4 : A4.eval (.tmp 22) = (.pointer (some ⟨q + 3, 0, none⟩)) := by rw [← hA4, put_ne (by decide)]; exact e22_3
        have e23_4 : A4.eval (.tmp 23) = (.pointer (some ⟨q + 3, 0, none⟩)) := by rw [← hA4, put_ne (by decide)]; exact e23_3
        have e24_4 : A4.eval (.tmp 24) = (.pointer (some ⟨q + 3, 5, none⟩)) := by rw [← hA4]; exact put_same (by rw [z3]; decide)
        clear e0_3 e1_3 e21_3 e22_3 e23_3 z3
        refine wpAny_take (i := 5) (v := (.pointer (some ⟨g, o, none⟩))) rfl (by kernel_rfl) (by kernel_rfl) (by kernel_rfl) (fun _ _ _ h => h) (Or.inl ⟨rfl, fun w => ?_⟩) ?_
        · rw [BigFrame.run_move (.tmp 1) rfl w, e1_4]
        change wpAny _ _ _ _ _ _ (Act.put A4 (some 26) ((.pointer (some ⟨g, o, none⟩)))) _
        generalize hA5 : Act.put A4 (some 26) ((.pointer (some ⟨g, o, none⟩))) = A5
        have z5 : A5.tmps.size = 55 := by rw [← hA5, put_size]; exact z4
        have e0_5 : A5.eval (.tmp 0) = (.pointer (some ⟨q + 3, 0, none⟩)) := by rw [← hA5, put_ne (by decide)]; exact e0_4
        have e1_5 : A5.eval (.tmp 1) = (.pointer (some ⟨g, o, none⟩)) := by rw [← hA5, put_ne (by decide)]; exact e1_4
        have e21_5 : A5.eval (.tmp 21) = (.pointer (some ⟨q + 3, 0, none⟩)) := by rw [← hA5, put_ne (by decide)]; exact e21_4
        have e22_5 : A5.eval (.tmp 22) = (.pointer (some ⟨q + 3, 0, none⟩)) := by rw [← hA5, put_ne (by decide)]; exact e22_4
        have e23_5 : A5.eval (.tmp 23) = (.pointer (some ⟨q + 3, 0, none⟩)) := by rw [← hA5, put_ne (by decide)]; exact e23_4
        have e24_5 : A5.eval (.tmp 24) = (.pointer (some ⟨q + 3, 5, none⟩)) := by rw [← hA5, put_ne (by decide)]; exact e24_4
        have e26_5 : A5.eval (.tmp 26) = (.pointer (some ⟨g, o, none⟩)) := by rw [← hA5]; exact put_same (by rw [z4]; decide)
        clear e0_4 e1_4 e21_4 e22_4 e23_4 e24_4 z4
        refine wpAny_take (i := 6) (v := (.pointer (some ⟨g, o, none⟩))) rfl (by kernel_rfl) (by kernel_rfl) (by kernel_rfl) (fun _ _ _ h => h) (Or.inl ⟨rfl, fun w => ?_⟩) ?_
        · exact run_nilCheck rfl e26_5 w
        change wpAny _ _ _ _ _ _ (Act.put A5 (some 27) ((.pointer (some ⟨g, o, none⟩)))) _
        generalize hA6 : Act.put A5 (some 27) ((.pointer (some ⟨g, o, none⟩))) = A6
        have z6 : A6.tmps.size = 55 := by rw [← hA6, put_size]; exact z5
        have e0_6 : A6.eval (.tmp 0) = (.pointer (some ⟨q + 3, 0, none⟩)) := by rw [← hA6, put_ne (by decide)]; exact e0_5
        have e1_6 : A6.eval (.tmp 1) = (.pointer (some ⟨g, o, none⟩)) := by rw [← hA6, put_ne (by decide)]; exact e1_5
        have e21_6 : A6.eval (.tmp 21) = (.pointer (some ⟨q + 3, 0, none⟩)) := by rw [← hA6, put_ne (by decide)]; exact e21_5
        have e22_6 : A6.eval (.tmp 22) = (.pointer (some ⟨q + 3, 0, none⟩)) := by rw [← hA6, put_ne (by decide)]; exact e22_5
        have e23_6 : A6.eval (.tmp 23) = (.pointer (some ⟨q + 3, 0, none⟩)) := by rw [← hA6, put_ne (by decide)]; exact e23_5
        have e24_6 : A6.eval (.tmp 24) = (.pointer (some ⟨q + 3, 5, none⟩)) := by rw [← hA6, put_ne (by decide)]; exact e24_5
        have e26_6 : A6.eval (.tmp 26) = (.pointer (some ⟨g, o, none⟩)) := by rw [← hA6, put_ne (by decide)]; exact e26_5
        have e27_6 : A6.eval (.tmp 27) = (.pointer (some ⟨g, o, none⟩)) := by rw [← hA6]; exact put_same (by rw [z5]; decide)
        clear e0_5 e1_5 e21_5 e22_5 e23_5 e24_5 e26_5 z5
        refine wpAny_take (i := 7) (v := (.pointer (some ⟨g, o + 4, none⟩))) rfl (by kernel_rfl) (by kernel_rfl) (by kernel_rfl) (fun _ _ _ h => h) (Or.inl ⟨rfl, fun w => ?_⟩) ?_
        · exact run_fieldAddr (Try.fieldX4 _ _) rfl e27_6 w
        change wpAny _ _ _ _ _ _ (Act.put A6 (some 28) ((.pointer (some ⟨g, o + 4, none⟩)))) _
        generalize hA7 : Act.put A6 (some 28) ((.pointer (some ⟨g, o + 4, none⟩))) = A7
        have z7 : A7.tmps.size = 55 := by rw [← hA7, put_size]; exact z6
        have e0_7 : A7.eval (.tmp 0) = (.pointer (some ⟨q + 3, 0, none⟩)) := by rw [← hA7, put_ne (by decide)]; exact e0_6
        have e1_7 : A7.eval (.tmp 1) = (.pointer (some ⟨g, o, none⟩)) := by rw [← hA7, put_ne (by decide)]; exact e1_6
        have e21_7 : A7.eval (.tmp 21) = (.pointer (some ⟨q + 3, 0, none⟩)) := by rw [← hA7, put_ne (by decide)]; exact e21_6
        have e22_7 : A7.eval (.tmp 22) = (.pointer (some ⟨q + 3, 0, none⟩)) := by rw [← hA7, put_ne (by decide)]; exact e22_6
        have e23_7 : A7.eval (.tmp 23) = (.pointer (some ⟨q + 3, 0, none⟩)) := by rw [← hA7, put_ne (by decide)]; exact e23_6
        have e24_7 : A7.eval (.tmp 24) = (.pointer (some ⟨q + 3, 5, none⟩)) := by rw [← hA7, put_ne (by decide)]; exact e24_6
        have e26_7 : A7.eval (.tmp 26) = (.pointer (some ⟨g, o, none⟩)) := by rw [← hA7, put_ne (by decide)]; exact e26_6
        have e27_7 : A7.eval (.tmp 27) = (.pointer (some ⟨g, o, none⟩)) := by rw [← hA7, put_ne (by decide)]; exact e27_6
        have e28_7 : A7.eval (.tmp 28) = (.pointer (some ⟨g, o + 4, none⟩)) := by rw [← hA7]; exact put_same (by rw [z6]; decide)
        clear e0_6 e1_6 e21_6 e22_6 e23_6 e24_6 e26_6 e27_6 z6
        refine wpAny_inter (s4 := 24) (s8 := 28) (d4 := 25) (d8 := 29) (d9 := 30) (d10 := 31) (v4 := .slice ua un uc) (v8 := (.slice a4 lC c4)) (v9 := (.agg #[.slice none 0 0, (.slice a4 lC c4), .int .i64 0])) (v10 := .slice (some ⟨w1.heap.size, 0, none⟩) 1 1) (w' := (World.drew w1).alloc (.cells #[.slice none 0 0, (.slice a4 lC c4), .int .i64 0] 109)) rfl rfl rfl rfl (by rw [z7]; decide) (by decide) (by kernel_rfl) (by kernel_rfl) (by kernel_rfl) (by kernel_rfl) (by kernel_rfl) (by kernel_rfl) (by kernel_rfl) ⟨rfl, rfl⟩ ⟨rfl, rfl⟩ ⟨rfl, rfl⟩ ⟨rfl, rfl⟩ e24_7 e28_7 (fun b hb => run_load (Try.loadU _ _ _ _ _ u5) rfl hb) (fun b hb => run_load (Try.loadU _ _ _ _ _ u5a) rfl hb) (fun b hb => run_load (Try.load4 _ _ _ _ _ x4) rfl hb) (fun b hb => run_build (Try.build4 _ _ _) rfl hb _) (fun b hb => run_buildSlice (Try.buildU4 _ _ _ _) rfl hb) ?_
        generalize hA8 : Act.put A7 (some 25) (.slice ua un uc) = A8
        have z8 : A8.tmps.size = 55 := by rw [← hA8, put_size]; exact z7
        have e21_8 : A8.eval (.tmp 21) = (.pointer (some ⟨q + 3, 0, none⟩)) := by rw [← hA8, put_ne (by decide)]; exact e21_7
        have e25_8 : A8.eval (.tmp 25) = .slice ua un uc := by rw [← hA8]; exact put_same (by rw [z7]; decide)
        clear e0_7 e1_7 e21_7 e22_7 e23_7 e24_7 e26_7 e27_7 e28_7 z7
        generalize hA9 : Act.put A8 (some 29) ((.slice a4 lC c4)) = A9
        have z9 : A9.tmps.size = 55 := by rw [← hA9, put_size]; exact z8
        have e21_9 : A9.eval (.tmp 21) = (.pointer (some ⟨q + 3, 0, none⟩)) := by rw [← hA9, put_ne (by decide)]; exact e21_8
        have e25_9 : A9.eval (.tmp 25) = .slice ua un uc := by rw [← hA9, put_ne (by decide)]; exact e25_8
        have e29_9 : A9.eval (.tmp 29) = (.slice a4 lC c4) := by rw [← hA9]; exact put_same (by rw [z8]; decide)
        clear e21_8 e25_8 z8
        generalize hA10 : Act.put A9 (some 30) ((.agg #[.slice none 0 0, (.slice a4 lC c4), .int .i64 0])) = A10
        have z10 : A10.tmps.size = 55 := by rw [← hA10, put_size]; exact z9
        have e21_10 : A10.eval (.tmp 21) = (.pointer (some ⟨q + 3, 0, none⟩)) := by rw [← hA10, put_ne (by decide)]; exact e21_9
        have e25_10 : A10.eval (.tmp 25) = .slice ua un uc := by rw [← hA10, put_ne (by decide)]; exact e25_9
        have e30_10 : A10.eval (.tmp 30) = (.agg #[.slice none 0 0, (.slice a4 lC c4), .int .i64 0]) := by rw [← hA10]; exact put_same (by rw [z9]; decide)
        clear e21_9 e25_9 e29_9 z9
        generalize hA11 : Act.put A10 (some 31) ((.slice (some ⟨w1.heap.size, 0, none⟩) 1 1)) = A11
        have z11 : A11.tmps.size = 55 := by rw [← hA11, put_size]; exact z10
        have e21_11 : A11.eval (.tmp 21) = (.pointer (some ⟨q + 3, 0, none⟩)) := by rw [← hA11, put_ne (by decide)]; exact e21_10
        have e25_11 : A11.eval (.tmp 25) = .slice ua un uc := by rw [← hA11, put_ne (by decide)]; exact e25_10
        have e31_11 : A11.eval (.tmp 31) = (.slice (some ⟨w1.heap.size, 0, none⟩) 1 1) := by rw [← hA11]; exact put_same (by rw [z10]; decide)
        clear e21_10 e25_10 e30_10 z10
        refine wpAny_ready (rs := [11]) (by kernel_rfl) (by simp) ?_
        refine AllReady.cons rfl (fun K hK => ?_) AllReady.nil
        refine step_append_own rfl (.tmp 25) (.tmp 31) 65 rfl (q + 4) 109 j0 (.agg #[.slice none 0 0, .slice none 0 0, .int .i64 0]) 3 56 Try.underlying65 hj hj0 hj1 hj2 rfl (by decide) (.slice ua un uc) un _ e25_11 (HROW.out.alloc _) ⟨w1.heap.size, 0, none⟩ 1 1 [.slice none 0 0, (.slice a4 lC c4), .int .i64 0] e31_11 rfl (three_put (World.drew w1) _ _ _ _) (by intro u hu; simp at hu; rcases hu with rfl | rfl | rfl <;> rfl) (by unfold maxLen; omega) (by omega) (by have := HF1.out.sz; simp; omega) ?_
        intro v' X hown5 hgrow5 hat5
        refine hK _ _ ?_
        clear hK K
        have HXF : Hid _ := (HF1.out.later ((Below.refl _ _).drew.alloc (Nat.le_refl _) (.cells #[.slice none 0 0, (.slice a4 lC c4), .int .i64 0] 109))).put_und (fs' := (.slice none 0 0, (.slice a4 lC c4), 0) :: fs) (by rw [ucells_cons]; have := hown5; rw [← HUN.out] at this; exact this) hgrow5 hat5
        have hr5 := (HF1.out.later ((Below.refl _ _).drew.alloc (Nat.le_refl _) (.cells #[.slice none 0 0, (.slice a4 lC c4), .int .i64 0] 109))).rowTo_und hgrow5
        have hc5 : X.cell? ⟨q + 3, 5, none⟩ = some (.slice ua un uc) := by rw [cell_of_row X _ 5 _ _ _ hr5]; rfl
        have hz5 : X.frozen? ⟨q + 3, 5, none⟩ = false := frozen_of_row X _ _ _ _ hr5
        obtain ⟨va, vl, vc', rfl⟩ := row_slice hown5
        clear hown5 hgrow5 hat5 hr5
        change wpAny _ _ _ _ _ _ (Act.put A11 (some 32) (.slice va vl vc')) _
        generalize hA12 : Act.put A11 (some 32) (.slice va vl vc') = A12
        have z12 : A12.tmps.size = 55 := by rw [← hA12, put_size]; exact z11
        have e21_12 : A12.eval (.tmp 21) = (.pointer (some ⟨q + 3, 0, none⟩)) := by rw [← hA12, put_ne (by decide)]; exact e21_11
        have e32_12 : A12.eval (.tmp 32) = .slice va vl vc' := by rw [← hA12]; exact put_same (by rw [z11]; decide)
        clear e21_11 e25_11 e31_11 z11
        refine wpAny_take (i := 12) (v := (.pointer (some ⟨q + 3, 0, none⟩))) rfl (by kernel_rfl) (by kernel_rfl) (by kernel_rfl) (fun _ _ _ h => h) (Or.inl ⟨rfl, fun w => ?_⟩) ?_
        · exact run_nilCheck rfl e21_12 w
        change wpAny _ _ _ _ _ _ (Act.put A12 (some 33) ((.pointer (some ⟨q + 3, 0, none⟩)))) _
        generalize hA13 : Act.put A12 (some 33) ((.pointer (some ⟨q + 3, 0, none⟩))) = A13
        have z13 : A13.tmps.size = 55 := by rw [← hA13, put_size]; exact z12
        have e32_13 : A13.eval (.tmp 32) = .slice va vl vc' := by rw [← hA13, put_ne (by decide)]; exact e32_12
        have e33_13 : A13.eval (.tmp 33) = (.pointer (some ⟨q + 3, 0, none⟩)) := by rw [← hA13]; exact put_same (by rw [z12]; decide)
        clear e21_12 e32_12 z12
        refine wpAny_take (i := 13) (v := (.pointer (some ⟨q + 3, 5, none⟩))) rfl (by kernel_rfl) (by kernel_rfl) (by kernel_rfl) (fun _ _ _ h => h) (Or.inl ⟨rfl, fun w => ?_⟩) ?_
        · exact run_fieldAddr (Try.fieldU _ _) rfl e33_13 w
        change wpAny _ _ _ _ _ _ (Act.put A13 (some 34) ((.pointer (some ⟨q + 3, 5, none⟩)))) _
        generalize hA14 : Act.put A13 (some 34) ((.pointer (some ⟨q + 3, 5, none⟩))) = A14
        have z14 : A14.tmps.size = 55 := by rw [← hA14, put_size]; exact z13
        have e32_14 : A14.eval (.tmp 32) = .slice va vl vc' := by rw [← hA14, put_ne (by decide)]; exact e32_13
        have e34_14 : A14.eval (.tmp 34) = (.pointer (some ⟨q + 3, 5, none⟩)) := by rw [← hA14]; exact put_same (by rw [z13]; decide)
        clear e32_13 e33_13 z13
        refine wpAny_ready (rs := [14]) (by kernel_rfl) (by simp) ?_
        refine AllReady.cons rfl (fun K hK => ?_) AllReady.nil
        refine step_skip rfl (run_store (Try.storeU _ _ _ _ _ _ _ _ hc5 hz5) rfl e34_14 e32_14) (hK _ _ ?_)
        clear hK K hc5 hz5
        change wpAny _ _ _ _ _ _ A14 _
        refine wpAny_done (by kernel_rfl) ?_ _
        clear e34_14 e32_14 z14
        subst hA14 hA13 hA12 hA11 hA10 hA9 hA8 hA7 hA6 hA5 hA4 hA3 hA2 hA1 hA0
        simp only [Act.put, List.setIfInBounds_toArray, List.set_cons_zero, List.set_cons_succ]

        obtain ⟨w2, hw2⟩ : ∃ w2, w2 = X.setCell ⟨q + 3, 5, none⟩ (.slice va vl vc') := ⟨_, rfl⟩
        rw [← hw2]
        have HF2 : Hid (Fw W w2 q nt1 nb nv1 sv (.slice va vl vc') ACC ACC cb f ss ((.slice none 0 0, .slice a4 lC c4, 0) :: fs) K) := by rw [hw2]; exact HXF.out
        clear HXF hw2 HROW HUN x0 x1 x2 x3 x4 u5
        obtain ⟨x0, x1, x2, x3, x4⟩ := HCE.out w2 HF2.out.bel
        obtain ⟨_, _, _, _, _, u5, _⟩ := HF2.out.cells
        have HUN : Hid ((((.slice none 0 0, .slice a4 lC c4, 0) : Fs) :: fs).length = vl) := by
          obtain ⟨_, _, a, c, e⟩ := HF2.out.few
          simp only [Value.slice.injEq] at e
          exact e.2.1.symm
        have hvl : vl ≤ 30000000 := by have := HUN.out; have := HFS.out; simp only [List.length_cons] at *; omega
        by_cases hE : lE = 0
        · have HX2 : Hid _ := HFIN.out _ _ _ w2 hn1 (by rw [if_neg (by omega)]; exact HF2.out)
          subst hE
          clear HFIN
          go_wp2_with fail
          go_end0
          exact ⟨rfl, HX2.out⟩
        · have hE' : (0 : Int) < (lE : Int) := by omega
          have HFI2 : Hid (∀ uv' w', Fw W w' q nt1 nb nv1 sv uv' ACC ACC cb f ss ((.slice a3 lE c3, .slice none 0 0, 0) :: (.slice none 0 0, .slice a4 lC c4, 0) :: fs) K → PST w') := fun uv' w' h => HFIN.out _ _ uv' w' hn1 (by rw [if_pos (show 0 < lE by omega)]; exact h)
          have HROW : Hid ((World.drew w2).ownsRow (q + 4) 109 3 (.slice va vl vc') vl (ucells ((.slice none 0 0, .slice a4 lC c4, 0) :: fs))) := by
            have := HF2.out.und
            rw [HUN.out] at this
            exact this
          clear HFIN hE
          go_wp2_with fail
          have u5a : ((World.drew w2).alloc (.cells #[(.slice a3 lE c3), .slice none 0 0, .int .i64 0] 109)).cell? ⟨q + 3, 5, none⟩ = some (.slice va vl vc') := cell_later ((Below.refl _ _).drew.alloc (Nat.le_refl _) _) u5
          refine wp_region_any (by kernel_rfl) ?_
          change wpAny _ _ _ _ _ _ _ (World.drew _)
          generalize hA0 : (Act.mk _ _) = A0
          have z0 : A0.tmps.size = 55 := by rw [← hA0]; rfl
          have e0_0 : A0.eval (.tmp 0) = (.pointer (some ⟨q + 3, 0, none⟩)) := by rw [← hA0]; rfl
          have e1_0 : A0.eval (.tmp 1) = (.pointer (some ⟨g, o, none⟩)) := by rw [← hA0]; rfl
          refine wpAny_take (i := 0) (v := (.pointer (some ⟨q + 3, 0, none⟩))) rfl (by kernel_rfl) (by kernel_rfl) (by kernel_rfl) (fun _ _ _ h => h) (Or.inl ⟨rfl, fun w => ?_⟩) ?_
          · rw [BigFrame.run_move (.tmp 0) rfl w, e0_0]
          change wpAny _ _ _ _ _ _ (Act.put A0 (some 41) ((.pointer (some ⟨q + 3, 0, none⟩)))) _
          generalize hA1 : Act.put A0 (some 41) ((.pointer (some ⟨q + 3, 0, none⟩))) = A1
          have z1 : A1.tmps.size = 55 := by rw [← hA1, put_size]; exact z0
          have e0_1 : A1.eval (.tmp 0) = (.pointer (some ⟨q + 3, 0, none⟩)) := by rw [← hA1, put_ne (by decide)]; exact e0_0
          have e1_1 : A1.eval (.tmp 1) = (.pointer (some ⟨g, o, none⟩)) := by rw [← hA1, put_ne (by decide)]; exact e1_0
          have e41_1 : A1.eval (.tmp 41) = (.pointer (some ⟨q + 3, 0, none⟩)) := by rw [← hA1]; exact put_same (by rw [z0]; decide)
          clear e0_0 e1_0 z0
          refine wpAny_take (i := 1) (v := (.pointer (some ⟨q + 3, 0, none⟩))) rfl (by kernel_rfl) (by kernel_rfl) (by kernel_rfl) (fun _ _ _ h => h) (Or.inl ⟨rfl, fun w => ?_⟩) ?_
          · rw [BigFrame.run_move (.tmp 0) rfl w, e0_1]
          change wpAny _ _ _ _ _ _ (Act.put A1 (some 42) ((.pointer (some ⟨q + 3, 0, none⟩)))) _
          generalize hA2 : Act.put A1 (some 42) ((.pointer (some ⟨q + 3, 0, none⟩))) = A2
          have z2 : A2.tmps.size = 55 := by rw [← hA2, put_size]; exact z1
          have e0_2 : A2.eval (.tmp 0) = (.pointer (some ⟨q + 3, 0, none⟩)) := by rw [← hA2, put_ne (by decide)]; exact e0_1
          have e1_2 : A2.eval (.tmp 1) = (.pointer (some ⟨g, o, none⟩)) := by rw [← hA2, put_ne (by decide)]; exact e1_1
          have e41_2 : A2.eval (.tmp 41) = (.pointer (some ⟨q + 3, 0, none⟩)) := by rw [← hA2, put_ne (by decide)]; exact e41_1
          have e42_2 : A2.eval (.tmp 42) = (.pointer (some ⟨q + 3, 0, none⟩)) := by rw [← hA2]; exact put_same (by rw [z1]; decide)
          clear e0_1 e1_1 e41_1 z1
          refine wpAny_take (i := 2) (v := (.pointer (some ⟨q + 3, 0, none⟩))) rfl (by kernel_rfl) (by kernel_rfl) (by kernel_rfl) (fun _ _ _ h => h) (Or.inl ⟨rfl, fun w => ?_⟩) ?_
          · exact run_nilCheck rfl e42_2 w
          change wpAny _ _ _ _ _ _ (Act.put A2 (some 43) ((.pointer (some ⟨q + 3, 0, none⟩)))) _
          generalize hA3 : Act.put A2 (some 43) ((.pointer (some ⟨q + 3, 0, none⟩))) = A3
          have z3 : A3.tmps.size = 55 := by rw [← hA3, put_size]; exact z2
          have e0_3 : A3.eval (.tmp 0) = (.pointer (some ⟨q + 3, 0, none⟩)) := by rw [← hA3, put_ne (by decide)]; exact e0_2
          have e1_3 : A3.eval (.tmp 1) = (.pointer (some ⟨g, o, none⟩)) := by rw [← hA3, put_ne (by decide)]; exact e1_2
          have e41_3 : A3.eval (.tmp 41) = (.pointer (some ⟨q + 3, 0, none⟩)) := by rw [← hA3, put_ne (by decide)]; exact e41_2
          have e42_3 : A3.eval (.tmp 42) = (.pointer (some ⟨q + 3, 0, none⟩)) := by rw [← hA3, put_ne (by decide)]; exact e42_2
          have e43_3 : A3.eval (.tmp 43) = (.pointer (some ⟨q + 3, 0, none⟩)) := by rw [← hA3]; exact put_same (by rw [z2]; decide)
          clear e0_2 e1_2 e41_2 e42_2 z2
          refine wpAny_take (i := 3) (v := (.pointer (some ⟨q + 3, 5, none⟩))) rfl (by kernel_rfl) (by kernel_rfl) (by kernel_rfl) (fun _ _ _ h => h) (Or.inl ⟨rfl, fun w => ?_⟩) ?_
          · exact run_fieldAddr (Try.fieldU _ _) rfl e43_3 w
          change wpAny _ _ _ _ _ _ (Act.put A3 (some 44) ((.pointer (some ⟨q + 3, 5, none⟩)))) _
          generalize hA4 : Act.put A3 (some 44) ((.pointer (some ⟨q + 3, 5, none⟩))) = A4
          have z4 : A4.tmps.size = 55 := by rw [← hA4, put_size]; exact z3
          have e0_4 : A4.eval (.tmp 0) = (.pointer (some ⟨q + 3, 0, none⟩)) := by rw [← hA4, put_ne (by decide)]; exact e0_3
          have e1_4 : A4.eval (.tmp 1) = (.pointer (some ⟨g, o, none⟩)) := by rw [← hA4, put_ne (by decide)]; exact e1_3
          have e41_4 : A4.eval (.tmp 41) = (.pointer (some ⟨q + 3, 0, none⟩)) := by rw [← hA4, put_ne (by decide)]; exact e41_3
          have e42_4 : A4.eval (.tmp 42) = (.pointer (some ⟨q + 3, 0, none⟩)) := by rw [← hA4, put_ne (by decide)]; exact e42_3
          have e43_4 : A4.eval (.tmp 43) = (.pointer (some ⟨q + 3, 0, none⟩)) := by rw [← hA4, put_ne (by decide)]; exact e43_3
          have e44_4 : A4.eval (.tmp 44) = (.pointer (some ⟨q + 3, 5, none⟩)) := by rw [← hA4]; exact put_same (by rw [z3]; decide)
          clear e0_3 e1_3 e41_3 e42_3 e43_3 z3
          refine wpAny_take (i := 5) (v := (.pointer (some ⟨g, o, none⟩))) rfl (by kernel_rfl) (by kernel_rfl) (by kernel_rfl) (fun _ _ _ h => h) (Or.inl ⟨rfl, fun w => ?_⟩) ?_
          · rw [BigFrame.run_move (.tmp 1) rfl w, e1_4]
          change wpAny _ _ _ _ _ _ (Act.put A4 (some 46) ((.pointer (some ⟨g, o, none⟩)))) _
          generalize hA5 : Act.put A4 (some 46) ((.pointer (some ⟨g, o, none⟩))) = A5
          have z5 : A5.tmps.size = 55 := by rw [← hA5, put_size]; exact z4
          have e0_5 : A5.eval (.tmp 0) = (.pointer (some ⟨q + 3, 0, none⟩)) := by rw [← hA5, put_ne (by decide)]; exact e0_4
          have e1_5 : A5.eval (.tmp 1) = (.pointer (some ⟨g, o, none⟩)) := by rw [← hA5, put_ne (by decide)]; exact e1_4
          have e41_5 : A5.eval (.tmp 41) = (.pointer (some ⟨q + 3, 0, none⟩)) := by rw [← hA5, put_ne (by decide)]; exact e41_4
          have e42_5 : A5.eval (.tmp 42) = (.pointer (some ⟨q + 3, 0, none⟩)) := by rw [← hA5, put_ne (by decide)]; exact e42_4
          have e43_5 : A5.eval (.tmp 43) = (.pointer (some ⟨q + 3, 0, none⟩)) := by rw [← hA5, put_ne (by decide)]; exact e43_4
          have e44_5 : A5.eval (.tmp 44) = (.pointer (some ⟨q + 3, 5, none⟩)) := by rw [← hA5, put_ne (by decide)]; exact e44_4
          have e46_5 : A5.eval (.tmp 46) = (.pointer (some ⟨g, o, none⟩)) := by rw [← hA5]; exact put_same (by rw [z4]; decide)
          clear e0_4 e1_4 e41_4 e42_4 e43_4 e44_4 z4
          refine wpAny_take (i := 6) (v := (.pointer (some ⟨g, o, none⟩))) rfl (by kernel_rfl) (by kernel_rfl) (by kernel_rfl) (fun _ _ _ h => h) (Or.inl ⟨rfl, fun w => ?_⟩) ?_
          · exact run_nilCheck rfl e46_5 w
          change wpAny _ _ _ _ _ _ (Act.put A5 (some 47) ((.pointer (some ⟨g, o, none⟩)))) _
          generalize hA6 : Act.put A5 (some 47) ((.pointer (some ⟨g, o, none⟩))) = A6
          have z6 : A6.tmps.size = 55 := by rw [← hA6, put_size]; exact z5
          have e0_6 : A6.eval (.tmp 0) = (.pointer (some ⟨q + 3, 0, none⟩)) := by rw [← hA6, put_ne (by decide)]; exact e0_5
          have e1_6 : A6.eval (.tmp 1) = (.pointer (some ⟨g, o, none⟩)) := by rw [← hA6, put_ne (by decide)]; exact e1_5
          have e41_6 : A6.eval (.tmp 41) = (.pointer (some ⟨q + 3, 0, none⟩)) := by rw [← hA6, put_ne (by decide)]; exact e41_5
          have e42_6 : A6.eval (.tmp 42) = (.pointer (some ⟨q + 3, 0, none⟩)) := by rw [← hA6, put_ne (by decide)]; exact e42_5
          have e43_6 : A6.eval (.tmp 43) = (.pointer (some ⟨q + 3, 0, none⟩)) := by rw [← hA6, put_ne (by decide)]; exact e43_5
          have e44_6 : A6.eval (.tmp 44) = (.pointer (some ⟨q + 3, 5, none⟩)) := by rw [← hA6, put_ne (by decide)]; exact e44_5
          have e46_6 : A6.eval (.tmp 46) = (.pointer (some ⟨g, o, none⟩)) := by rw [← hA6, put_ne (by decide)]; exact e46_5
          have e47_6 : A6.eval (.tmp 47) = (.pointer (some ⟨g, o, none⟩)) := by rw [← hA6]; exact put_same (by rw [z5]; decide)
          clear e0_5 e1_5 e41_5 e42_5 e43_5 e44_5 e46_5 z5
          refine wpAny_take (i := 7) (v := (.pointer (some ⟨g, o + 3, none⟩))) rfl (by kernel_rfl) (by kernel_rfl) (by kernel_rfl) (fun _ _ _ h => h) (Or.inl ⟨rfl, fun w => ?_⟩) ?_
          · exact run_fieldAddr (Try.fieldX3 _ _) rfl e47_6 w
          change wpAny _ _ _ _ _ _ (Act.put A6 (some 48) ((.pointer (some ⟨g, o + 3, none⟩)))) _
          generalize hA7 : Act.put A6 (some 48) ((.pointer (some ⟨g, o + 3, none⟩))) = A7
          have z7 : A7.tmps.size = 55 := by rw [← hA7, put_size]; exact z6
          have e0_7 : A7.eval (.tmp 0) = (.pointer (some ⟨q + 3, 0, none⟩)) := by rw [← hA7, put_ne (by decide)]; exact e0_6
          have e1_7 : A7.eval (.tmp 1) = (.pointer (some ⟨g, o, none⟩)) := by rw [← hA7, put_ne (by decide)]; exact e1_6
          have e41_7 : A7.eval (.tmp 41) = (.pointer (some ⟨q + 3, 0, none⟩)) := by rw [← hA7, put_ne (by decide)]; exact e41_6
          have e42_7 : A7.eval (.tmp 42) = (.pointer (some ⟨q + 3, 0, none⟩)) := by rw [← hA7, put_ne (by decide)]; exact e42_6
          have e43_7 : A7.eval (.tmp 43) = (.pointer (some ⟨q + 3, 0, none⟩)) := by rw [← hA7, put_ne (by decide)]; exact e43_6
          have e44_7 : A7.eval (.tmp 44) = (.pointer (some ⟨q + 3, 5, none⟩)) := by rw [← hA7, put_ne (by decide)]; exact e44_6
          have e46_7 : A7.eval (.tmp 46) = (.pointer (some ⟨g, o, none⟩)) := by rw [← hA7, put_ne (by decide)]; exact e46_6
          have e47_7 : A7.eval (.tmp 47) = (.pointer (some ⟨g, o, none⟩)) := by rw [← hA7, put_ne (by decide)]; exact e47_6
          have e48_7 : A7.eval (.tmp 48) = (.pointer (some ⟨g, o + 3, none⟩)) := by rw [← hA7]; exact put_same (by rw [z6]; decide)
          clear e0_6 e1_6 e41_6 e42_6 e43_6 e44_6 e46_6 e47_6 z6
          refine wpAny_inter (s4 := 44) (s8 := 48) (d4 := 45) (d8 := 49) (d9 := 50) (d10 := 51) (v4 := .slice va vl vc') (v8 := (.slice a3 lE c3)) (v9 := (.agg #[(.slice a3 lE c3), .slice none 0 0, .int .i64 0])) (v10 := .slice (some ⟨w2.heap.size, 0, none⟩) 1 1) (w' := (World.drew w2).alloc (.cells #[(.slice a3 lE c3), .slice none 0 0, .int .i64 0] 109)) rfl rfl rfl rfl (by rw [z7]; decide) (by decide) (by kernel_rfl) (by kernel_rfl) (by kernel_rfl) (by kernel_rfl) (by kernel_rfl) (by kernel_rfl) (by kernel_rfl) ⟨rfl, rfl⟩ ⟨rfl, rfl⟩ ⟨rfl, rfl⟩ ⟨rfl, rfl⟩ e44_7 e48_7 (fun b hb => run_load (Try.loadU _ _ _ _ _ u5) rfl hb) (fun b hb => run_load (Try.loadU _ _ _ _ _ u5a) rfl hb) (fun b hb => run_load (Try.load3 _ _ _ _ _ x3) rfl hb) (fun b hb => run_build (Try.build3 _ _ _) rfl hb _) (fun b hb => run_buildSlice (Try.buildU3 _ _ _ _) rfl hb) ?_
          generalize hA8 : Act.put A7 (some 45) (.slice va vl vc') = A8
          have z8 : A8.tmps.size = 55 := by rw [← hA8, put_size]; exact z7
          have e41_8 : A8.eval (.tmp 41) = (.pointer (some ⟨q + 3, 0, none⟩)) := by rw [← hA8, put_ne (by decide)]; exact e41_7
          have e45_8 : A8.eval (.tmp 45) = .slice va vl vc' := by rw [← hA8]; exact put_same (by rw [z7]; decide)
          clear e0_7 e1_7 e41_7 e42_7 e43_7 e44_7 e46_7 e47_7 e48_7 z7
          generalize hA9 : Act.put A8 (some 49) ((.slice a3 lE c3)) = A9
          have z9 : A9.tmps.size = 55 := by rw [← hA9, put_size]; exact z8
          have e41_9 : A9.eval (.tmp 41) = (.pointer (some ⟨q + 3, 0, none⟩)) := by rw [← hA9, put_ne (by decide)]; exact e41_8
          have e45_9 : A9.eval (.tmp 45) = .slice va vl vc' := by rw [← hA9, put_ne (by decide)]; exact e45_8
          have e49_9 : A9.eval (.tmp 49) = (.slice a3 lE c3) := by rw [← hA9]; exact put_same (by rw [z8]; decide)
          clear e41_8 e45_8 z8
          generalize hA10 : Act.put A9 (some 50) ((.agg #[(.slice a3 lE c3), .slice none 0 0, .int .i64 0])) = A10
          have z10 : A10.tmps.size = 55 := by rw [← hA10, put_size]; exact z9
          have e41_10 : A10.eval (.tmp 41) = (.pointer (some ⟨q + 3, 0, none⟩)) := by rw [← hA10, put_ne (by decide)]; exact e41_9
          have e45_10 : A10.eval (.tmp 45) = .slice va vl vc' := by rw [← hA10, put_ne (by decide)]; exact e45_9
          have e50_10 : A10.eval (.tmp 50) = (.agg #[(.slice a3 lE c3), .slice none 0 0, .int .i64 0]) := by rw [← hA10]; exact put_same (by rw [z9]; decide)
          clear e41_9 e45_9 e49_9 z9
          generalize hA11 : Act.put A10 (some 51) ((.slice (some ⟨w2.heap.size, 0, none⟩) 1 1)) = A11
          have z11 : A11.tmps.size = 55 := by rw [← hA11, put_size]; exact z10
          have e41_11 : A11.eval (.tmp 41) = (.pointer (some ⟨q + 3, 0, none⟩)) := by rw [← hA11, put_ne (by decide)]; exact e41_10
          have e45_11 : A11.eval (.tmp 45) = .slice va vl vc' := by rw [← hA11, put_ne (by decide)]; exact e45_10
          have e51_11 : A11.eval (.tmp 51) = (.slice (some ⟨w2.heap.size, 0, none⟩) 1 1) := by rw [← hA11]; exact put_same (by rw [z10]; decide)
          clear e41_10 e45_10 e50_10 z10
          refine wpAny_ready (rs := [11]) (by kernel_rfl) (by simp) ?_
          refine AllReady.cons rfl (fun K hK => ?_) AllReady.nil
          refine step_append_own rfl (.tmp 45) (.tmp 51) 65 rfl (q + 4) 109 j0 (.agg #[.slice none 0 0, .slice none 0 0, .int .i64 0]) 3 56 Try.underlying65 hj hj0 hj1 hj2 rfl (by decide) (.slice va vl vc') vl _ e45_11 (HROW.out.alloc _) ⟨w2.heap.size, 0, none⟩ 1 1 [(.slice a3 lE c3), .slice none 0 0, .int .i64 0] e51_11 rfl (three_put (World.drew w2) _ _ _ _) (by intro u hu; simp at hu; rcases hu with rfl | rfl | rfl <;> rfl) (by unfold maxLen; omega) (by omega) (by have := HF2.out.sz; simp; omega) ?_
          intro v' X hown5 hgrow5 hat5
          refine hK _ _ ?_
          clear hK K
          have HXF : Hid _ := (HF2.out.later ((Below.refl _ _).drew.alloc (Nat.le_refl _) (.cells #[(.slice a3 lE c3), .slice none 0 0, .int .i64 0] 109))).put_und (fs' := ((.slice a3 lE c3), .slice none 0 0, 0) :: (.slice none 0 0, .slice a4 lC c4, 0) :: fs) (by rw [ucells_cons]; have := hown5; rw [← HUN.out] at this; exact this) hgrow5 hat5
          have hr5 := (HF2.out.later ((Below.refl _ _).drew.alloc (Nat.le_refl _) (.cells #[(.slice a3 lE c3), .slice none 0 0, .int .i64 0] 109))).rowTo_und hgrow5
          have hc5 : X.cell? ⟨q + 3, 5, none⟩ = some (.slice va vl vc') := by rw [cell_of_row X _ 5 _ _ _ hr5]; rfl
          have hz5 : X.frozen? ⟨q + 3, 5, none⟩ = false := frozen_of_row X _ _ _ _ hr5
          obtain ⟨va, vl, vc', rfl⟩ := row_slice hown5
          clear hown5 hgrow5 hat5 hr5
          change wpAny _ _ _ _ _ _ (Act.put A11 (some 52) (.slice va vl vc')) _
          generalize hA12 : Act.put A11 (some 52) (.slice va vl vc') = A12
          have z12 : A12.tmps.size = 55 := by rw [← hA12, put_size]; exact z11
          have e41_12 : A12.eval (.tmp 41) = (.pointer (some ⟨q + 3, 0, none⟩)) := by rw [← hA12, put_ne (by decide)]; exact e41_11
          have e52_12 : A12.eval (.tmp 52) = .slice va vl vc' := by rw [← hA12]; exact put_same (by rw [z11]; decide)
          clear e41_11 e45_11 e51_11 z11
          refine wpAny_take (i := 12) (v := (.pointer (some ⟨q + 3, 0, none⟩))) rfl (by kernel_rfl) (by kernel_rfl) (by kernel_rfl) (fun _ _ _ h => h) (Or.inl ⟨rfl, fun w => ?_⟩) ?_
          · exact run_nilCheck rfl e41_12 w
          change wpAny _ _ _ _ _ _ (Act.put A12 (some 53) ((.pointer (some ⟨q + 3, 0, none⟩)))) _
          generalize hA13 : Act.put A12 (some 53) ((.pointer (some ⟨q + 3, 0, none⟩))) = A13
          have z13 : A13.tmps.size = 55 := by rw [← hA13, put_size]; exact z12
          have e52_13 : A13.eval (.tmp 52) = .slice va vl vc' := by rw [← hA13, put_ne (by decide)]; exact e52_12
          have e53_13 : A13.eval (.tmp 53) = (.pointer (some ⟨q + 3, 0, none⟩)) := by rw [← hA13]; exact put_same (by rw [z12]; decide)
          clear e41_12 e52_12 z12
          refine wpAny_take (i := 13) (v := (.pointer (some ⟨q + 3, 5, none⟩))) rfl (by kernel_rfl) (by kernel_rfl) (by kernel_rfl) (fun _ _ _ h => h) (Or.inl ⟨rfl, fun w => ?_⟩) ?_
          · exact run_fieldAddr (Try.fieldU _ _) rfl e53_13 w
          change wpAny _ _ _ _ _ _ (Act.put A13 (some 54) ((.pointer (some ⟨q + 3, 5, none⟩)))) _
          generalize hA14 : Act.put A13 (some 54) ((.pointer (some ⟨q + 3, 5, none⟩))) = A14
          have z14 : A14.tmps.size = 55 := by rw [← hA14, put_size]; exact z13
          have e52_14 : A14.eval (.tmp 52) = .slice va vl vc' := by rw [← hA14, put_ne (by decide)]; exact e52_13
          have e54_14 : A14.eval (.tmp 54) = (.pointer (some ⟨q + 3, 5, none⟩)) := by rw [← hA14]; exact put_same (by rw [z13]; decide)
          clear e52_13 e53_13 z13
          refine wpAny_ready (rs := [14]) (by kernel_rfl) (by simp) ?_
          refine AllReady.cons rfl (fun K hK => ?_) AllReady.nil
          refine step_skip rfl (run_store (Try.storeU _ _ _ _ _ _ _ _ hc5 hz5) rfl e54_14 e52_14) (hK _ _ ?_)
          clear hK K hc5 hz5
          change wpAny _ _ _ _ _ _ A14 _
          refine wpAny_done (by kernel_rfl) ?_ _
          clear e54_14 e52_14 z14
          subst hA14 hA13 hA12 hA11 hA10 hA9 hA8 hA7 hA6 hA5 hA4 hA3 hA2 hA1 hA0
          simp only [Act.put, List.setIfInBounds_toArray, List.set_cons_zero, List.set_cons_succ]

          have HX2 : Hid _ := HFI2.out _ _ HXF.out
          clear HXF HFI2
          go_wp2_with fail
          go_end0
          exact ⟨rfl, HX2.out⟩

    · have hK' : (kk == 3) = false := by simpa using hK
      have hACC : tellX cb acc kk S = acc := tellX_no fun e => hK e.1
      rw [hACC] at HFI
      have HF1 : Hid (Fw W wr q nt nb nv sv _ acc acc cb f ss fs K) := h
      have hn1 : nt ≤ nt + 1 := by omega
      obtain ⟨w1, hw1⟩ : ∃ w1, w1 = wr := ⟨_, rfl⟩
      rw [← hw1] at HF1 x0 x1 x2 x3 x4 ⊢
      clear h hL o1 o2 hz hz1 n1 n2 hrow hcur hA hlE hlC hkk hnn hS hun hb5 hACC hPST hP2 hK hw1
      go_enter Try.func35, Try.ntmps35
      obtain ⟨_, _, _, _, _, u5, _⟩ := HF1.out.cells
      by_cases hC : lC = 0
      · subst hC
        have HFIN : Hid (∀ nt' nv' uv' w', nt' ≤ nt + 1 → Fw W w' q nt' nb nv' sv uv' acc acc cb f ss ((if 0 < lE then [((.slice a3 lE c3 : Value), (.slice none 0 0 : Value), 0)] else []) ++ fs) K → _) := fun nt' nv' uv' w' h1 h2 => HFI.out nt' nv' uv' w' h1 (by simpa using h2)
        clear HFI
        by_cases hE : lE = 0
        · have HX2 : Hid _ := HFIN.out _ _ _ w1 hn1 (by rw [if_neg (by omega)]; exact HF1.out)
          subst hE
          clear HFIN
          go_wp2_with fail
          go_end0
          exact ⟨rfl, HX2.out⟩
        · have hE' : (0 : Int) < (lE : Int) := by omega
          have HFI2 : Hid (∀ uv' w', Fw W w' q nt nb nv sv uv' acc acc cb f ss ((.slice a3 lE c3, .slice none 0 0, 0) :: fs) K → PST w') := fun uv' w' h => HFIN.out _ _ uv' w' hn1 (by rw [if_pos (show 0 < lE by omega)]; exact h)
          have HROW : Hid ((World.drew w1).ownsRow (q + 4) 109 3 (.slice ua un uc) un (ucells (fs))) := by
            have := HF1.out.und
            rw [HUN.out] at this
            exact this
          clear HFIN hE
          go_wp2_with fail
          have u5a : ((World.drew w1).alloc (.cells #[(.slice a3 lE c3), .slice none 0 0, .int .i64 0] 109)).cell? ⟨q + 3, 5, none⟩ = some (.slice ua un uc) := cell_later ((Below.refl _ _).drew.alloc (Nat.le_refl _) _) u5
          refine wp_region_any (by kernel_rfl) ?_
          change wpAny _ _ _ _ _ _ _ (World.drew _)
          generalize hA0 : (Act.mk _ _) = A0
          have z0 : A0.tmps.size = 55 := by rw [← hA0]; rfl
          have e0_0 : A0.eval (.tmp 0) = (.pointer (some ⟨q + 3, 0, none⟩)) := by rw [← hA0]; rfl
          have e1_0 : A0.eval (.tmp 1) = (.pointer (some ⟨g, o, none⟩)) := by rw [← hA0]; rfl
          refine wpAny_take (i := 0) (v := (.pointer (some ⟨q + 3, 0, none⟩))) rfl (by kernel_rfl) (by kernel_rfl) (by kernel_rfl) (fun _ _ _ h => h) (Or.inl ⟨rfl, fun w => ?_⟩) ?_
          · rw [BigFrame.run_move (.tmp 0) rfl w, e0_0]
          change wpAny _ _ _ _ _ _ (Act.put A0 (some 41) ((.pointer (some ⟨q + 3, 0, none⟩)))) _
          generalize hA1 : Act.put A0 (some 41) ((.pointer (some ⟨q + 3, 0, none⟩))) = A1
          have z1 : A1.tmps.size = 55 := by rw [← hA1, put_size]; exact z0
          have e0_1 : A1.eval (.tmp 0) = (.pointer (some ⟨q + 3, 0, none⟩)) := by rw [← hA1, put_ne (by decide)]; exact e0_0
          have e1_1 : A1.eval (.tmp 1) = (.pointer (some ⟨g, o, none⟩)) := by rw [← hA1, put_ne (by decide)]; exact e1_0
          have e41_1 : A1.eval (.tmp 41) = (.pointer (some ⟨q + 3, 0, none⟩)) := by rw [← hA1]; exact put_same (by rw [z0]; decide)
          clear e0_0 e1_0 z0
          refine wpAny_take (i := 1) (v := (.pointer (some ⟨q + 3, 0, none⟩))) rfl (by kernel_rfl) (by kernel_rfl) (by kernel_rfl) (fun _ _ _ h => h) (Or.inl ⟨rfl, fun w => ?_⟩) ?_
          · rw [BigFrame.run_move (.tmp 0) rfl w, e0_1]
          change wpAny _ _ _ _ _ _ (Act.put A1 (some 42) ((.pointer (some ⟨q + 3, 0, none⟩)))) _
          generalize hA2 : Act.put A1 (some 42) ((.pointer (some ⟨q + 3, 0, none⟩))) = A2
          have z2 : A2.tmps.size = 55 := by rw [← hA2, put_size]; exact z1
          have e0_2 : A2.eval (.tmp 0) = (.pointer (some ⟨q + 3, 0, none⟩)) := by rw [← hA2, put_ne (by decide)]; exact e0_1
          have e1_2 : A2.eval (.tmp 1) = (.pointer (some ⟨g, o, none⟩)) := by rw [← hA2, put_ne (by decide)]; exact e1_1
          have e41_2 : A2.eval (.tmp 41) = (.pointer (some ⟨q + 3, 0, none⟩)) := by rw [← hA2, put_ne (by decide)]; exact e41_1
          have e42_2 : A2.eval (.tmp 42) = (.pointer (some ⟨q + 3, 0, none⟩)) := by rw [← hA2]; exact put_same (by rw [z1]; decide)
          clear e0_1 e1_1 e41_1 z1
          refine wpAny_take (i := 2) (v := (.pointer (some ⟨q + 3, 0, none⟩))) rfl (by kernel_rfl) (by kernel_rfl) (by kernel_rfl) (fun _ _ _ h => h) (Or.inl ⟨rfl, fun w => ?_⟩) ?_
          · exact run_nilCheck rfl e42_2 w
          change wpAny _ _ _ _ _ _ (Act.put A2 (some 43) ((.pointer (some ⟨q + 3, 0, none⟩)))) _
          generalize hA3 : Act.put A2 (some 43) ((.pointer (some ⟨q + 3, 0, none⟩))) = A3
          have z3 : A3.tmps.size = 55 := by rw [← hA3, put_size]; exact z2
          have e0_3 : A3.eval (.tmp 0) = (.pointer (some ⟨q + 3, 0, none⟩)) := by rw [← hA3, put_ne (by decide)]; exact e0_2
          have e1_3 : A3.eval (.tmp 1) = (.pointer (some ⟨g, o, none⟩)) := by rw [← hA3, put_ne (by decide)]; exact e1_2
          have e41_3 : A3.eval (.tmp 41) = (.pointer (some ⟨q + 3, 0, none⟩)) := by rw [← hA3, put_ne (by decide)]; exact e41_2
          have e42_3 : A3.eval (.tmp 42) = (.pointer (some ⟨q + 3, 0, none⟩)) := by rw [← hA3, put_ne (by decide)]; exact e42_2
          have e43_3 : A3.eval (.tmp 43) = (.pointer (some ⟨q + 3, 0, none⟩)) := by rw [← hA3]; exact put_same (by rw [z2]; decide)
          clear e0_2 e1_2 e41_2 e42_2 z2
          refine wpAny_take (i := 3) (v := (.pointer (some ⟨q + 3, 5, none⟩))) rfl (by kernel_rfl) (by kernel_rfl) (by kernel_rfl) (fun _ _ _ h => h) (Or.inl ⟨rfl, fun w => ?_⟩) ?_
          · exact run_fieldAddr (Try.fieldU _ _) rfl e43_3 w
          change wpAny _ _ _ _ _ _ (Act.put A3 (some 44) ((.pointer (some ⟨q + 3, 5, none⟩)))) _
          generalize hA4 : Act.put A3 (some 44) ((.pointer (some ⟨q + 3, 5, none⟩))) = A4
          have z4 : A4.tmps.size = 55 := by rw [← hA4, put_size]; exact z3
          have e0_4 : A4.eval (.tmp 0) = (.pointer (some ⟨q + 3, 0, none⟩)) := by rw [← hA4, put_ne (by decide)]; exact e0_3
          have e1_4 : A4.eval (.tmp 1) = (.pointer (some ⟨g, o, none⟩)) := by rw [← hA4, put_ne (by decide)]; exact e1_3
          have e41_4 : A4.eval (.tmp 41) = (.pointer (some ⟨q + 3, 0, none⟩)) := by rw [← hA4, put_ne (by decide)]; exact e41_3
          have e42_4 : A4.eval (.tmp 42) = (.pointer (some ⟨q + 3, 0, none⟩)) := by rw [← hA4, put_ne (by decide)]; exact e42_3
          have e43_4 : A4.eval (.tmp 43) = (.pointer (some ⟨q + 3, 0, none⟩)) := by rw [← hA4, put_ne (by decide)]; exact e43_3
          have e44_4 : A4.eval (.tmp 44) = (.pointer (some ⟨q + 3, 5, none⟩)) := by rw [← hA4]; exact put_same (by rw [z3]; decide)
          clear e0_3 e1_3 e41_3 e42_3 e43_3 z3
          refine wpAny_take (i := 5) (v := (.pointer (some ⟨g, o, none⟩))) rfl (by kernel_rfl) (by kernel_rfl) (by kernel_rfl) (fun _ _ _ h => h) (Or.inl ⟨rfl, fun w => ?_⟩) ?_
          · rw [BigFrame.run_move (.tmp 1) rfl w, e1_4]
          change wpAny _ _ _ _ _ _ (Act.put A4 (some 46) ((.pointer (some ⟨g, o, none⟩)))) _
          generalize hA5 : Act.put A4 (some 46) ((.pointer (some ⟨g, o, none⟩))) = A5
          have z5 : A5.tmps.size = 55 := by rw [← hA5, put_size]; exact z4
          have e0_5 : A5.eval (.tmp 0) = (.pointer (some ⟨q + 3, 0, none⟩)) := by rw [← hA5, put_ne (by decide)]; exact e0_4
          have e1_5 : A5.eval (.tmp 1) = (.pointer (some ⟨g, o, none⟩)) := by rw [← hA5, put_ne (by decide)]; exact e1_4
          have e41_5 : A5.eval (.tmp 41) = (.pointer (some ⟨q + 3, 0, none⟩)) := by rw [← hA5, put_ne (by decide)]; exact e41_4
          have e42_5 : A5.eval (.tmp 42) = (.pointer (some ⟨q + 3, 0, none⟩)) := by rw [← hA5, put_ne (by decide)]; exact e42_4
          have e43_5 : A5.eval (.tmp 43) = (.pointer (some ⟨q + 3, 0, none⟩)) := by rw [← hA5, put_ne (by decide)]; exact e43_4
          have e44_5 : A5.eval (.tmp 44) = (.pointer (some ⟨q + 3, 5, none⟩)) := by rw [← hA5, put_ne (by decide)]; exact e44_4
          have e46_5 : A5.eval (.tmp 46) = (.pointer (some ⟨g, o, none⟩)) := by rw [← hA5]; exact put_same (by rw [z4]; decide)
          clear e0_4 e1_4 e41_4 e42_4 e43_4 e44_4 z4
          refine wpAny_take (i := 6) (v := (.pointer (some ⟨g, o, none⟩))) rfl (by kernel_rfl) (by kernel_rfl) (by kernel_rfl) (fun _ _ _ h => h) (Or.inl ⟨rfl, fun w => ?_⟩) ?_
          · exact run_nilCheck rfl e46_5 w
          change wpAny _ _ _ _ _ _ (Act.put A5 (some 47) ((.pointer (some ⟨g, o, none⟩)))) _
          generalize hA6 : Act.put A5 (some 47) ((.pointer (some ⟨g, o, none⟩))) = A6
          have z6 : A6.tmps.size = 55 := by rw [← hA6, put_size]; exact z5
          have e0_6 : A6.eval (.tmp 0) = (.pointer (some ⟨q + 3, 0, none⟩)) := by rw [← hA6, put_ne (by decide)]; exact e0_5
          have e1_6 : A6.eval (.tmp 1) = (.pointer (some ⟨g, o, none⟩)) := by rw [← hA6, put_ne (by decide)]; exact e1_5
          have e41_6 : A6.eval (.tmp 41) = (.pointer (some ⟨q + 3, 0, none⟩)) := by rw [← hA6, put_ne (by decide)]; exact e41_5
          have e42_6 : A6.eval (.tmp 42) = (.pointer (some ⟨q + 3, 0, none⟩)) := by rw [← hA6, put_ne (by decide)]; exact e42_5
          have e43_6 : A6.eval (.tmp 43) = (.pointer (some ⟨q + 3, 0, none⟩)) := by rw [← hA6, put_ne (by decide)]; exact e43_5
          have e44_6 : A6.eval (.tmp 44) = (.pointer (some ⟨q + 3, 5, none⟩)) := by rw [← hA6, put_ne (by decide)]; exact e44_5
          have e46_6 : A6.eval (.tmp 46) = (.pointer (some ⟨g, o, none⟩)) := by rw [← hA6, put_ne (by decide)]; exact e46_5
          have e47_6 : A6.eval (.tmp 47) = (.pointer (some ⟨g, o, none⟩)) := by rw [← hA6]; exact put_same (by rw [z5]; decide)
          clear e0_5 e1_5 e41_5 e42_5 e43_5 e44_5 e46_5 z5
          refine wpAny_take (i := 7) (v := (.pointer (some ⟨g, o + 3, none⟩))) rfl (by kernel_rfl) (by kernel_rfl) (by kernel_rfl) (fun _ _ _ h => h) (Or.inl ⟨rfl, fun w => ?_⟩) ?_
          · exact run_fieldAddr (Try.fieldX3 _ _) rfl e47_6 w
          change wpAny _ _ _ _ _ _ (Act.put A6 (some 48) ((.pointer (some ⟨g, o + 3, none⟩)))) _
          generalize hA7 : Act.put A6 (some 48) ((.pointer (some ⟨g, o + 3, none⟩))) = A7
          have z7 : A7.tmps.size = 55 := by rw [← hA7, put_size]; exact z6
          have e0_7 : A7.eval (.tmp 0) = (.pointer (some ⟨q + 3, 0, none⟩)) := by rw [← hA7, put_ne (by decide)]; exact e0_6
          have e1_7 : A7.eval (.tmp 1) = (.pointer (some ⟨g, o, none⟩)) := by rw [← hA7, put_ne (by decide)]; exact e1_6
          have e41_7 : A7.eval (.tmp 41) = (.pointer (some ⟨q + 3, 0, none⟩)) := by rw [← hA7, put_ne (by decide)]; exact e41_6
          have e42_7 : A7.eval (.tmp 42) = (.pointer (some ⟨q + 3, 0, none⟩)) := by rw [← hA7, put_ne (by decide)]; exact e42_6
          have e43_7 : A7.eval (.tmp 43) = (.pointer (some ⟨q + 3, 0, none⟩)) := by rw [← hA7, put_ne (by decide)]; exact e43_6
          have e44_7 : A7.eval (.tmp 44) = (.pointer (some ⟨q + 3, 5, none⟩)) := by rw [← hA7, put_ne (by decide)]; exact e44_6
          have e46_7 : A7.eval (.tmp 46) = (.pointer (some ⟨g, o, none⟩)) := by rw [← hA7, put_ne (by decide)]; exact e46_6
          have e47_7 : A7.eval (.tmp 47) = (.pointer (some ⟨g, o, none⟩)) := by rw [← hA7, put_ne (by decide)]; exact e47_6
          have e48_7 : A7.eval (.tmp 48) = (.pointer (some ⟨g, o + 3, none⟩)) := by rw [← hA7]; exact put_same (by rw [z6]; decide)
          clear e0_6 e1_6 e41_6 e42_6 e43_6 e44_6 e46_6 e47_6 z6
          refine wpAny_inter (s4 := 44) (s8 := 48) (d4 := 45) (d8 := 49) (d9 := 50) (d10 := 51) (v4 := .slice ua un uc) (v8 := (.slice a3 lE c3)) (v9 := (.agg #[(.slice a3 lE c3), .slice none 0 0, .int .i64 0])) (v10 := .slice (some ⟨w1.heap.size, 0, none⟩) 1 1) (w' := (World.drew w1).alloc (.cells #[(.slice a3 lE c3), .slice none 0 0, .int .i64 0] 109)) rfl rfl rfl rfl (by rw [z7]; decide) (by decide) (by kernel_rfl) (by kernel_rfl) (by kernel_rfl) (by kernel_rfl) (by kernel_rfl) (by kernel_rfl) (by kernel_rfl) ⟨rfl, rfl⟩ ⟨rfl, rfl⟩ ⟨rfl, rfl⟩ ⟨rfl, rfl⟩ e44_7 e48_7 (fun b hb => run_load (Try.loadU _ _ _ _ _ u5) rfl hb) (fun b hb => run_load (Try.loadU _ _ _ _ _ u5a) rfl hb) (fun b hb => run_load (Try.load3 _ _ _ _ _ x3) rfl hb) (fun b hb => run_build (Try.build3 _ _ _) rfl hb _) (fun b hb => run_buildSlice (Try.buildU3 _ _ _ _) rfl hb) ?_
          generalize hA8 : Act.put A7 (some 45) (.slice ua un uc) = A8
          have z8 : A8.tmps.size = 55 := by rw [← hA8, put_size]; exact z7
          have e41_8 : A8.eval (.tmp 41) = (.pointer (some ⟨q + 3, 0, none⟩)) := by rw [← hA8, put_ne (by decide)]; exact e41_7
          have e45_8 : A8.eval (.tmp 45) = .slice ua un uc := by rw [← hA8]; exact put_same (by rw [z7]; decide)
          clear e0_7 e1_7 e41_7 e42_7 e43_7 e44_7 e46_7 e47_7 e48_7 z7
          generalize hA9 : Act.put A8 (some 49) ((.slice a3 lE c3)) = A9
          have z9 : A9.tmps.size = 55 := by rw [← hA9, put_size]; exact z8
          have e41_9 : A9.eval (.tmp 41) = (.pointer (some ⟨q + 3, 0, none⟩)) := by rw [← hA9, put_ne (by decide)]; exact e41_8
          have e45_9 : A9.eval (.tmp 45) = .slice ua un uc := by rw [← hA9, put_ne (by decide)]; exact e45_8
          have e49_9 : A9.eval (.tmp 49) = (.slice a3 lE c3) := by rw [← hA9]; exact put_same (by rw [z8]; decide)
          clear e41_8 e45_8 z8
          generalize hA10 : Act.put A9 (some 50) ((.agg #[(.slice a3 lE c3), .slice none 0 0, .int .i64 0])) = A10
          have z10 : A10.tmps.size = 55 := by rw [← hA10, put_size]; exact z9
          have e41_10 : A10.eval (.tmp 41) = (.pointer (some ⟨q + 3, 0, none⟩)) := by rw [← hA10, put_ne (by decide)]; exact e41_9
          have e45_10 : A10.eval (.tmp 45) = .slice ua un uc := by rw [← hA10, put_ne (by decide)]; exact e45_9
          have e50_10 : A10.eval (.tmp 50) = (.agg #[(.slice a3 lE c3), .slice none 0 0, .int .i64 0]) := by rw [← hA10]; exact put_same (by rw [z9]; decide)
          clear e41_9 e45_9 e49_9 z9
          generalize hA11 : Act.put A10 (some 51) ((.slice (some ⟨w1.heap.size, 0, none⟩) 1 1)) = A11
          have z11 : A11.tmps.size = 55 := by rw [← hA11, put_size]; exact z10
          have e41_11 : A11.eval (.tmp 41) = (.pointer (some ⟨q + 3, 0, none⟩)) := by rw [← hA11, put_ne (by decide)]; exact e41_10
          have e45_11 : A11.eval (.tmp 45) = .slice ua un uc := by rw [← hA11, put_ne (by decide)]; exact e45_10
          have e51_11 : A11.eval (.tmp 51) = (.slice (some ⟨w1.heap.size, 0, none⟩) 1 1) := by rw [← hA11]; exact put_same (by rw [z10]; decide)
          clear e41_10 e45_10 e50_10 z10
          refine wpAny_ready (rs := [11]) (by kernel_rfl) (by simp) ?_
          refine AllReady.cons rfl (fun K hK => ?_) AllReady.nil
          refine step_append_own rfl (.tmp 45) (.tmp 51) 65 rfl (q + 4) 109 j0 (.agg #[.slice none 0 0, .slice none 0 0, .int .i64 0]) 3 56 Try.underlying65 hj hj0 hj1 hj2 rfl (by decide) (.slice ua un uc) un _ e45_11 (HROW.out.alloc _) ⟨w1.heap.size, 0, none⟩ 1 1 [(.slice a3 lE c3), .slice none 0 0, .int .i64 0] e51_11 rfl (three_put (World.drew w1) _ _ _ _) (by intro u hu; simp at hu; rcases hu with rfl | rfl | rfl <;> rfl) (by unfold maxLen; omega) (by omega) (by have := HF1.out.sz; simp; omega) ?_
          intro v' X hown5 hgrow5 hat5
          refine hK _ _ ?_
          clear hK K
          have HXF : Hid _ := (HF1.out.later ((Below.refl _ _).drew.alloc (Nat.le_refl _) (.cells #[(.slice a3 lE c3), .slice none 0 0, .int .i64 0] 109))).put_und (fs' := ((.slice a3 lE c3), .slice none 0 0, 0) :: fs) (by rw [ucells_cons]; have := hown5; rw [← HUN.out] at this; exact this) hgrow5 hat5
          have hr5 := (HF1.out.later ((Below.refl _ _).drew.alloc (Nat.le_refl _) (.cells #[(.slice a3 lE c3), .slice none 0 0, .int .i64 0] 109))).rowTo_und hgrow5
          have hc5 : X.cell? ⟨q + 3, 5, none⟩ = some (.slice ua un uc) := by rw [cell_of_row X _ 5 _ _ _ hr5]; rfl
          have hz5 : X.frozen? ⟨q + 3, 5, none⟩ = false := frozen_of_row X _ _ _ _ hr5
          obtain ⟨va, vl, vc', rfl⟩ := row_slice hown5
          clear hown5 hgrow5 hat5 hr5
          change wpAny _ _ _ _ _ _ (Act.put A11 (some 52) (.slice va vl vc')) _
          generalize hA12 : Act.put A11 (some 52) (.slice va vl vc') = A12
          have z12 : A12.tmps.size = 55 := by rw [← hA12, put_size]; exact z11
          have e41_12 : A12.eval (.tmp 41) = (.pointer (some ⟨q + 3, 0, none⟩)) := by rw [← hA12, put_ne (by decide)]; exact e41_11
          have e52_12 : A12.eval (.tmp 52) = .slice va vl vc' := by rw [← hA12]; exact put_same (by rw [z11]; decide)
          clear e41_11 e45_11 e51_11 z11
          refine wpAny_take (i := 12) (v := (.pointer (some ⟨q + 3, 0, none⟩))) rfl (by kernel_rfl) (by kernel_rfl) (by kernel_rfl) (fun _ _ _ h => h) (Or.inl ⟨rfl, fun w => ?_⟩) ?_
          · exact run_nilCheck rfl e41_12 w
          change wpAny _ _ _ _ _ _ (Act.put A12 (some 53) ((.pointer (some ⟨q + 3, 0, none⟩)))) _
          generalize hA13 : Act.put A12 (some 53) ((.pointer (some ⟨q + 3, 0, none⟩))) = A13
          have z13 : A13.tmps.size = 55 := by rw [← hA13, put_size]; exact z12
          have e52_13 : A13.eval (.tmp 52) = .slice va vl vc' := by rw [← hA13, put_ne (by decide)]; exact e52_12
          have e53_13 : A13.eval (.tmp 53) = (.pointer (some ⟨q + 3, 0, none⟩)) := by rw [← hA13]; exact put_same (by rw [z12]; decide)
          clear e41_12 e52_12 z12
          refine wpAny_take (i := 13) (v := (.pointer (some ⟨q + 3, 5, none⟩))) rfl (by kernel_rfl) (by kernel_rfl) (by kernel_rfl) (fun _ _ _ h => h) (Or.inl ⟨rfl, fun w => ?_⟩) ?_
          · exact run_fieldAddr (Try.fieldU _ _) rfl e53_13 w
          change wpAny _ _ _ _ _ _ (Act.put A13 (some 54) ((.pointer (some ⟨q + 3, 5, none⟩)))) _
          generalize hA14 : Act.put A13 (some 54) ((.pointer (some ⟨q + 3, 5, none⟩))) = A14
          have z14 : A14.tmps.size = 55 := by rw [← hA14, put_size]; exact z13
          have e52_14 : A14.eval (.tmp 52) = .slice va vl vc' := by rw [← hA14, put_ne (by decide)]; exact e52_13
          have e54_14 : A14.eval (.tmp 54) = (.pointer (some ⟨q + 3, 5, none⟩)) := by rw [← hA14]; exact put_same (by rw [z13]; decide)
          clear e52_13 e53_13 z13
          refine wpAny_ready (rs := [14]) (by kernel_rfl) (by simp) ?_
          refine AllReady.cons rfl (fun K hK => ?_) AllReady.nil
          refine step_skip rfl (run_store (Try.storeU _ _ _ _ _ _ _ _ hc5 hz5) rfl e54_14 e52_14) (hK _ _ ?_)
          clear hK K hc5 hz5
          change wpAny _ _ _ _ _ _ A14 _
          refine wpAny_done (by kernel_rfl) ?_ _
          clear e54_14 e52_14 z14
          subst hA14 hA13 hA12 hA11 hA10 hA9 hA8 hA7 hA6 hA5 hA4 hA3 hA2 hA1 hA0
          simp only [Act.put, List.setIfInBounds_toArray, List.set_cons_zero, List.set_cons_succ]

          have HX2 : Hid _ := HFI2.out _ _ HXF.out
          clear HXF HFI2
          go_wp2_with fail
          go_end0
          exact ⟨rfl, HX2.out⟩

      · have hC' : (0 : Int) < (lC : Int) := by omega
        have HFIN : Hid (∀ nt' nv' uv' w', nt' ≤ nt + 1 → Fw W w' q nt' nb nv' sv uv' acc acc cb f ss ((if 0 < lE then [((.slice a3 lE c3 : Value), (.slice none 0 0 : Value), 0)] else []) ++ ((.slice none 0 0, .slice a4 lC c4, 0) :: fs)) K → _) := fun nt' nv' uv' w' h1 h2 => HFI.out nt' nv' uv' w' h1 (by rw [if_pos (show 0 < lC by omega)]; exact h2)
        have HROW : Hid ((World.drew w1).ownsRow (q + 4) 109 3 (.slice ua un uc) un (ucells fs)) := by
          have := HF1.out.und
          rw [HUN.out] at this
          exact this
        clear HFI hC
        go_wp2_with fail
        have u5a : ((World.drew w1).alloc (.cells #[.slice none 0 0, (.slice a4 lC c4), .int .i64 0] 109)).cell? ⟨q + 3, 5, none⟩ = some (.slice ua un uc) := cell_later ((Below.refl _ _).drew.alloc (Nat.le_refl _) _) u5
        refine wp_region_any (by kernel_rfl) ?_
        change wpAny _ _ _ _ _ _ _ (World.drew _)
        generalize hA0 : (Act.mk _ _) = A0
        have z0 : A0.tmps.size = 55 := by rw [← hA0]; rfl
        have e0_0 : A0.eval (.tmp 0) = (.pointer (some ⟨q + 3, 0, none⟩)) := by rw [← hA0]; rfl
        have e1_0 : A0.eval (.tmp 1) = (.pointer (some ⟨g, o, none⟩)) := by rw [← hA0]; rfl
        refine wpAny_take (i := 0) (v := (.pointer (some ⟨q + 3, 0, none⟩))) rfl (by kernel_rfl) (by kernel_rfl) (by kernel_rfl) (fun _ _ _ h => h) (Or.inl ⟨rfl, fun w => ?_⟩) ?_
        · rw [BigFrame.run_move (.tmp 0) rfl w, e0_0]
        change wpAny _ _ _ _ _ _ (Act.put A0 (some 21) ((.pointer (some ⟨q + 3, 0, none⟩)))) _
        generalize hA1 : Act.put A0 (some 21) ((.pointer (some ⟨q + 3, 0, none⟩))) = A1
        have z1 : A1.tmps.size = 55 := by rw [← hA1, put_size]; exact z0
        have e0_1 : A1.eval (.tmp 0) = (.pointer (some ⟨q + 3, 0, none⟩)) := by rw [← hA1, put_ne (by decide)]; exact e0_0
        have e1_1 : A1.eval (.tmp 1) = (.pointer (some ⟨g, o, none⟩)) := by rw [← hA1, put_ne (by decide)]; exact e1_0
        have e21_1 : A1.eval (.tmp 21) = (.pointer (some ⟨q + 3, 0, none⟩)) := by rw [← hA1]; exact put_same (by rw [z0]; decide)
        clear e0_0 e1_0 z0
        refine wpAny_take (i := 1) (v := (.pointer (some ⟨q + 3, 0, none⟩))) rfl (by kernel_rfl) (by kernel_rfl) (by kernel_rfl) (fun _ _ _ h => h) (Or.inl ⟨rfl, fun w => ?_⟩) ?_
        · rw [BigFrame.run_move (.tmp 0) rfl w, e0_1]
        change wpAny _ _ _ _ _ _ (Act.put A1 (some 22) ((.pointer (some ⟨q + 3, 0, none⟩)))) _
        generalize hA2 : Act.put A1 (some 22) ((.pointer (some ⟨q + 3, 0, none⟩))) = A2
        have z2 : A2.tmps.size = 55 := by rw [← hA2, put_size]; exact z1
        have e0_2 : A2.eval (.tmp 0) = (.pointer (some ⟨q + 3, 0, none⟩)) := by rw [← hA2, put_ne (by decide)]; exact e0_1
        have e1_2 : A2.eval (.tmp 1) = (.pointer (some ⟨g, o, none⟩)) := by rw [← hA2, put_ne (by decide)]; exact e1_1
        have e21_2 : A2.eval (.tmp 21) = (.pointer (some ⟨q + 3, 0, none⟩)) := by rw [← hA2, put_ne (by decide)]; exact e21_1
        have e22_2 : A2.eval (.tmp 22) = (.pointer (some ⟨q + 3, 0, none⟩)) := by rw [← hA2]; exact put_same (by rw [z1]; decide)
        clear e0_1 e1_1 e21_1 z1
        refine wpAny_take (i := 2) (v := (.pointer (some ⟨q + 3, 0, none⟩))) rfl (by kernel_rfl) (by kernel_rfl) (by kernel_rfl) (fun _ _ _ h => h) (Or.inl ⟨rfl, fun w => ?_⟩) ?_
        · exact run_nilCheck rfl e22_2 w
        change wpAny _ _ _ _ _ _ (Act.put A2 (some 23) ((.pointer (some ⟨q + 3, 0, none⟩)))) _
        generalize hA3 : Act.put A2 (some 23) ((.pointer (some ⟨q + 3, 0, none⟩))) = A3
        have z3 : A3.tmps.size = 55 := by rw [← hA3, put_size]; exact z2
        have e0_3 : A3.eval (.tmp 0) = (.pointer (some ⟨q + 3, 0, none⟩)) := by rw [← hA3, put_ne (by decide)]; exact e0_2
        have e1_3 : A3.eval (.tmp 1) = (.pointer (some ⟨g, o, none⟩)) := by rw [← hA3, put_ne (by decide)]; exact e1_2
        have e21_3 : A3.eval (.tmp 21) = (.pointer (some ⟨q + 3, 0, none⟩)) := by rw [← hA3, put_ne (by decide)]; exact e21_2
        have e22_3 : A3.eval (.tmp 22) = (.pointer (some ⟨q + 3, 0, none⟩)) := by rw [← hA3, put_ne (by decide)]; exact e22_2
        have e23_3 : A3.eval (.tmp 23) = (.pointer (some ⟨q + 3, 0, none⟩)) := by rw [← hA3]; exact put_same (by rw [z2]; decide)
        clear e0_2 e1_2 e21_2 e22_2 z2
        refine wpAny_take (i := 3) (v := (.pointer (some ⟨q + 3, 5, none⟩))) rfl (by kernel_rfl) (by kernel_rfl) (by kernel_rfl) (fun _ _ _ h => h) (Or.inl ⟨rfl, fun w => ?_⟩) ?_
        · exact run_fieldAddr (Try.fieldU _ _) rfl e23_3 w
        change wpAny _ _ _ _ _ _ (Act.put A3 (some 24) ((.pointer (some ⟨q + 3, 5, none⟩)))) _
        generalize hA4 : Act.put A3 (some 24) ((.pointer (some ⟨q + 3, 5, none⟩))) = A4
        have z4 : A4.tmps.size = 55 := by rw [← hA4, put_size]; exact z3
        have e0_4 : A4.eval (.tmp 0) = (.pointer (some ⟨q + 3, 0, none⟩)) := by rw [← hA4, put_ne (by decide)]; exact e0_3
        have e1_4 : A4.eval (.tmp 1) = (.pointer (some ⟨g, o, none⟩)) := by rw [← hA4, put_ne (by decide)]; exact e1_3
        have e21_4 : A4.eval (.tmp 21) = (.pointer (some ⟨q + 3, 0, none⟩)) := by rw [← hA4, put_ne (by decide)]; exact e21_3
        have e22_4 : A4.eval (.tmp 22) = (.pointer (some ⟨q + 3, 0, none⟩)) := by rw [← hA4, put_ne (by decide)]; exact e22_3
        have e23_4 : A4.eval (.tmp 23) = (.pointer (some ⟨q + 3, 0, none⟩)) := by rw [← hA4, put_ne (by decide)]; exact e23_3
        have e24_4 : A4.eval (.tmp 24) = (.pointer (some ⟨q + 3, 5, none⟩)) := by rw [← hA4]; exact put_same (by rw [z3]; decide)
        clear e0_3 e1_3 e21_3 e22_3 e23_3 z3
        refine wpAny_take (i := 5) (v := (.pointer (some ⟨g, o, none⟩))) rfl (by kernel_rfl) (by kernel_rfl) (by kernel_rfl) (fun _ _ _ h => h) (Or.inl ⟨rfl, fun w => ?_⟩) ?_
        · rw [BigFrame.run_move (.tmp 1) rfl w, e1_4]
        change wpAny _ _ _ _ _ _ (Act.put A4 (some 26) ((.pointer (some ⟨g, o, none⟩)))) _
        generalize hA5 : Act.put A4 (some 26) ((.pointer (some ⟨g, o, none⟩))) = A5
        have z5 : A5.tmps.size = 55 := by rw [← hA5, put_size]; exact z4
        have e0_5 : A5.eval (.tmp 0) = (.pointer (some ⟨q + 3, 0, none⟩)) := by rw [← hA5, put_ne (by decide)]; exact e0_4
        have e1_5 : A5.eval (.tmp 1) = (.pointer (some ⟨g, o, none⟩)) := by rw [← hA5, put_ne (by decide)]; exact e1_4
        have e21_5 : A5.eval (.tmp 21) = (.pointer (some ⟨q + 3, 0, none⟩)) := by rw [← hA5, put_ne (by decide)]; exact e21_4
        have e22_5 : A5.eval (.tmp 22) = (.pointer (some ⟨q + 3, 0, none⟩)) := by rw [← hA5, put_ne (by decide)]; exact e22_4
        have e23_5 : A5.eval (.tmp 23) = (.pointer (some ⟨q + 3, 0, none⟩)) := by rw [← hA5, put_ne (by decide)]; exact e23_4
        have e24_5 : A5.eval (.tmp 24) = (.pointer (some ⟨q + 3, 5, none⟩)) := by rw [← hA5, put_ne (by decide)]; exact e24_4
        have e26_5 : A5.eval (.tmp 26) = (.pointer (some ⟨g, o, none⟩)) := by rw [← hA5]; exact put_same (by rw [z4]; decide)
        clear e0_4 e1_4 e21_4 e22_4 e23_4 e24_4 z4
        refine wpAny_take (i := 6) (v := (.pointer (some ⟨g, o, none⟩))) rfl (by kernel_rfl) (by kernel_rfl) (by kernel_rfl) (fun _ _ _ h => h) (Or.inl ⟨rfl, fun w => ?_⟩) ?_
        · exact run_nilCheck rfl e26_5 w
        change wpAny _ _ _ _ _ _ (Act.put A5 (some 27) ((.pointer (some ⟨g, o, none⟩)))) _
        generalize hA6 : Act.put A5 (some 27) ((.pointer (some ⟨g, o, none⟩))) = A6
        have z6 : A6.tmps.size = 55 := by rw [← hA6, put_size]; exact z5
        have e0_6 : A6.eval (.tmp 0) = (.pointer (some ⟨q + 3, 0, none⟩)) := by rw [← hA6, put_ne (by decide)]; exact e0_5
        have e1_6 : A6.eval (.tmp 1) = (.pointer (some ⟨g, o, none⟩)) := by rw [← hA6, put_ne (by decide)]; exact e1_5
        have e21_6 : A6.eval (.tmp 21) = (.pointer (some ⟨q + 3, 0, none⟩)) := by rw [← hA6, put_ne (by decide)]; exact e21_5
        have e22_6 : A6.eval (.tmp 22) = (.pointer (some ⟨q + 3, 0, none⟩)) := by rw [← hA6, put_ne (by decide)]; exact e22_5
        have e23_6 : A6.eval (.tmp 23) = (.pointer (some ⟨q + 3, 0, none⟩)) := by rw [← hA6, put_ne (by decide)]; exact e23_5
        have e24_6 : A6.eval (.tmp 24) = (.pointer (some ⟨q + 3, 5, none⟩)) := by rw [← hA6, put_ne (by decide)]; exact e24_5
        have e26_6 : A6.eval (.tmp 26) = (.pointer (some ⟨g, o, none⟩)) := by rw [← hA6, put_ne (by decide)]; exact e26_5
        have e27_6 : A6.eval (.tmp 27) = (.pointer (some ⟨g, o, none⟩)) := by rw [← hA6]; exact put_same (by rw [z5]; decide)
        clear e0_5 e1_5 e21_5 e22_5 e23_5 e24_5 e26_5 z5
        refine wpAny_take (i := 7) (v := (.pointer (some ⟨g, o + 4, none⟩))) rfl (by kernel_rfl) (by kernel_rfl) (by kernel_rfl) (fun _ _ _ h => h) (Or.inl ⟨rfl, fun w => ?_⟩) ?_
        · exact run_fieldAddr (Try.fieldX4 _ _) rfl e27_6 w
        change wpAny _ _ _ _ _ _ (Act.put A6 (some 28) ((.pointer (some ⟨g, o + 4, none⟩)))) _
        generalize hA7 : Act.put A6 (some 28) ((.pointer (some ⟨g, o + 4, none⟩))) = A7
        have z7 : A7.tmps.size = 55 := by rw [← hA7, put_size]; exact z6
        have e0_7 : A7.eval (.tmp 0) = (.pointer (some ⟨q + 3, 0, none⟩)) := by rw [← hA7, put_ne (by decide)]; exact e0_6
        have e1_7 : A7.eval (.tmp 1) = (.pointer (some ⟨g, o, none⟩)) := by rw [← hA7, put_ne (by decide)]; exact e1_6
        have e21_7 : A7.eval (.tmp 21) = (.pointer (some ⟨q + 3, 0, none⟩)) := by rw [← hA7, put_ne (by decide)]; exact e21_6
        have e22_7 : A7.eval (.tmp 22) = (.pointer (some ⟨q + 3, 0, none⟩)) := by rw [← hA7, put_ne (by decide)]; exact e22_6
        have e23_7 : A7.eval (.tmp 23) = (.pointer (some ⟨q + 3, 0, none⟩)) := by rw [← hA7, put_ne (by decide)]; exact e23_6
        have e24_7 : A7.eval (.tmp 24) = (.pointer (some ⟨q + 3, 5, none⟩)) := by rw [← hA7, put_ne (by decide)]; exact e24_6
        have e26_7 : A7.eval (.tmp 26) = (.pointer (some ⟨g, o, none⟩)) := by rw [← hA7, put_ne (by decide)]; exact e26_6
        have e27_7 : A7.eval (.tmp 27) = (.pointer (some ⟨g, o, none⟩)) := by rw [← hA7, put_ne (by decide)]; exact e27_6
        have e28_7 : A7.eval (.tmp 28) = (.pointer (some ⟨g, o + 4, none⟩)) := by rw [← hA7]; exact put_same (by rw [z6]; decide)
        clear e0_6 e1_6 e21_6 e22_6 e23_6 e24_6 e26_6 e27_6 z6
        refine wpAny_inter (s4 := 24) (s8 := 28) (d4 := 25) (d8 := 29) (d9 := 30) (d10 := 31) (v4 := .slice ua un uc) (v8 := (.slice a4 lC c4)) (v9 := (.agg #[.slice none 0 0, (.slice a4 lC c4), .int .i64 0])) (v10 := .slice (some ⟨w1.heap.size, 0, none⟩) 1 1) (w' := (World.drew w1).alloc (.cells #[.slice none 0 0, (.slice a4 lC c4), .int .i64 0] 109)) rfl rfl rfl rfl (by rw [z7]; decide) (by decide) (by kernel_rfl) (by kernel_rfl) (by kernel_rfl) (by kernel_rfl) (by kernel_rfl) (by kernel_rfl) (by kernel_rfl) ⟨rfl, rfl⟩ ⟨rfl, rfl⟩ ⟨rfl, rfl⟩ ⟨rfl, rfl⟩ e24_7 e28_7 (fun b hb => run_load (Try.loadU _ _ _ _ _ u5) rfl hb) (fun b hb => run_load (Try.loadU _ _ _ _ _ u5a) rfl hb) (fun b hb => run_load (Try.load4 _ _ _ _ _ x4) rfl hb) (fun b hb => run_build (Try.build4 _ _ _) rfl hb _) (fun b hb => run_buildSlice (Try.buildU4 _ _ _ _) rfl hb) ?_
        generalize hA8 : Act.put A7 (some 25) (.slice ua un uc) = A8
        have z8 : A8.tmps.size = 55 := by rw [← hA8, put_size]; exact z7
        have e21_8 : A8.eval (.tmp 21) = (.pointer (some ⟨q + 3, 0, none⟩)) := by rw [← hA8, put_ne (by decide)]; exact e21_7
        have e25_8 : A8.eval (.tmp 25) = .slice ua un uc := by rw [← hA8]; exact put_same (by rw [z7]; decide)
        clear e0_7 e1_7 e21_7 e22_7 e23_7 e24_7 e26_7 e27_7 e28_7 z7
        generalize hA9 : Act.put A8 (some 29) ((.slice a4 lC c4)) = A9
        have z9 : A9.tmps.size = 55 := by rw [← hA9, put_size]; exact z8
        have e21_9 : A9.eval (.tmp 21) = (.pointer (some ⟨q + 3, 0, none⟩)) := by rw [← hA9, put_ne (by decide)]; exact e21_8
        have e25_9 : A9.eval (.tmp 25) = .slice ua un uc := by rw [← hA9, put_ne (by decide)]; exact e25_8
        have e29_9 : A9.eval (.tmp 29) = (.slice a4 lC c4) := by rw [← hA9]; exact put_same (by rw [z8]; decide)
        clear e21_8 e25_8 z8
        generalize hA10 : Act.put A9 (some 30) ((.agg #[.slice none 0 0, (.slice a4 lC c4), .int .i64 0])) = A10
        have z10 : A10.tmps.size = 55 := by rw [← hA10, put_size]; exact z9
        have e21_10 : A10.eval (.tmp 21) = (.pointer (some ⟨q + 3, 0, none⟩)) := by rw [← hA10, put_ne (by decide)]; exact e21_9
        have e25_10 : A10.eval (.tmp 25) = .slice ua un uc := by rw [← hA10, put_ne (by decide)]; exact e25_9
        have e30_10 : A10.eval (.tmp 30) = (.agg #[.slice none 0 0, (.slice a4 lC c4), .int .i64 0]) := by rw [← hA10]; exact put_same (by rw [z9]; decide)
        clear e21_9 e25_9 e29_9 z9
        generalize hA11 : Act.put A10 (some 31) ((.slice (some ⟨w1.heap.size, 0, none⟩) 1 1)) = A11
        have z11 : A11.tmps.size = 55 := by rw [← hA11, put_size]; exact z10
        have e21_11 : A11.eval (.tmp 21) = (.pointer (some ⟨q + 3, 0, none⟩)) := by rw [← hA11, put_ne (by decide)]; exact e21_10
        have e25_11 : A11.eval (.tmp 25) = .slice ua un uc := by rw [← hA11, put_ne (by decide)]; exact e25_10
        have e31_11 : A11.eval (.tmp 31) = (.slice (some ⟨w1.heap.size, 0, none⟩) 1 1) := by rw [← hA11]; exact put_same (by rw [z10]; decide)
        clear e21_10 e25_10 e30_10 z10
        refine wpAny_ready (rs := [11]) (by kernel_rfl) (by simp) ?_
        refine AllReady.cons rfl (fun K hK => ?_) AllReady.nil
        refine step_append_own rfl (.tmp 25) (.tmp 31) 65 rfl (q + 4) 109 j0 (.agg #[.slice none 0 0, .slice none 0 0, .int .i64 0]) 3 56 Try.underlying65 hj hj0 hj1 hj2 rfl (by decide) (.slice ua un uc) un _ e25_11 (HROW.out.alloc _) ⟨w1.heap.size, 0, none⟩ 1 1 [.slice none 0 0, (.slice a4 lC c4), .int .i64 0] e31_11 rfl (three_put (World.drew w1) _ _ _ _) (by intro u hu; simp at hu; rcases hu with rfl | rfl | rfl <;> rfl) (by unfold maxLen; omega) (by omega) (by have := HF1.out.sz; simp; omega) ?_
        intro v' X hown5 hgrow5 hat5
        refine hK _ _ ?_
        clear hK K
        have HXF : Hid _ := (HF1.out.later ((Below.refl _ _).drew.alloc (Nat.le_refl _) (.cells #[.slice none 0 0, (.slice a4 lC c4), .int .i64 0] 109))).put_und (fs' := (.slice none 0 0, (.slice a4 lC c4), 0) :: fs) (by rw [ucells_cons]; have := hown5; rw [← HUN.out] at this; exact this) hgrow5 hat5
        have hr5 := (HF1.out.later ((Below.refl _ _).drew.alloc (Nat.le_refl _) (.cells #[.slice none 0 0, (.slice a4 lC c4), .int .i64 0] 109))).rowTo_und hgrow5
        have hc5 : X.cell? ⟨q + 3, 5, none⟩ = some (.slice ua un uc) := by rw [cell_of_row X _ 5 _ _ _ hr5]; rfl
        have hz5 : X.frozen? ⟨q + 3, 5, none⟩ = false := frozen_of_row X _ _ _ _ hr5
        obtain ⟨va, vl, vc', rfl⟩ := row_slice hown5
        clear hown5 hgrow5 hat5 hr5
        change wpAny _ _ _ _ _ _ (Act.put A11 (some 32) (.slice va vl vc')) _
        generalize hA12 : Act.put A11 (some 32) (.slice va vl vc') = A12
        have z12 : A12.tmps.size = 55 := by rw [← hA12, put_size]; exact z11
        have e21_12 : A12.eval (.tmp 21) = (.pointer (some ⟨q + 3, 0, none⟩)) := by rw [← hA12, put_ne (by decide)]; exact e21_11
        have e32_12 : A12.eval (.tmp 32) = .slice va vl vc' := by rw [← hA12]; exact put_same (by rw [z11]; decide)
        clear e21_11 e25_11 e31_11 z11
        refine wpAny_take (i := 12) (v := (.pointer (some ⟨q + 3, 0, none⟩))) rfl (by kernel_rfl) (by kernel_rfl) (by kernel_rfl) (fun _ _ _ h => h) (Or.inl ⟨rfl, fun w => ?_⟩) ?_
        · exact run_nilCheck rfl e21_12 w
        change wpAny _ _ _ _ _ _ (Act.put A12 (some 33) ((.pointer (some ⟨q + 3, 0, none⟩)))) _
        generalize hA13 : Act.put A12 (some 33) ((.pointer (some ⟨q + 3, 0, none⟩))) = A13
        have z13 : A13.tmps.size = 55 := by rw [← hA13, put_size]; exact z12
        have e32_13 : A13.eval (.tmp 32) = .slice va vl vc' := by rw [← hA13, put_ne (by decide)]; exact e32_12
        have e33_13 : A13.eval (.tmp 33) = (.pointer (some ⟨q + 3, 0, none⟩)) := by rw [← hA13]; exact put_same (by rw [z12]; decide)
        clear e21_12 e32_12 z12
        refine wpAny_take (i := 13) (v := (.pointer (some ⟨q + 3, 5, none⟩))) rfl (by kernel_rfl) (by kernel_rfl) (by kernel_rfl) (fun _ _ _ h => h) (Or.inl ⟨rfl, fun w => ?_⟩) ?_
        · exact run_fieldAddr (Try.fieldU _ _) rfl e33_13 w
        change wpAny _ _ _ _ _ _ (Act.put A13 (some 34) ((.pointer (some ⟨q + 3, 5, none⟩)))) _
        generalize hA14 : Act.put A13 (some 34) ((.pointer (some ⟨q + 3, 5, none⟩))) = A14
        have z14 : A14.tmps.size = 55 := by rw [← hA14, put_size]; exact z13
        have e32_14 : A14.eval (.tmp 32) = .slice va vl vc' := by rw [← hA14, put_ne (by decide)]; exact e32_13
        have e34_14 : A14.eval (.tmp 34) = (.pointer (some ⟨q + 3, 5, none⟩)) := by rw [← hA14]; exact put_same (by rw [z13]; decide)
        clear e32_13 e33_13 z13
        refine wpAny_ready (rs := [14]) (by kernel_rfl) (by simp) ?_
        refine AllReady.cons rfl (fun K hK => ?_) AllReady.nil
        refine step_skip rfl (run_store (Try.storeU _ _ _ _ _ _ _ _ hc5 hz5) rfl e34_14 e32_14) (hK _ _ ?_)
        clear hK K hc5 hz5
        change wpAny _ _ _ _ _ _ A14 _
        refine wpAny_done (by kernel_rfl) ?_ _
        clear e34_14 e32_14 z14
        subst hA14 hA13 hA12 hA11 hA10 hA9 hA8 hA7 hA6 hA5 hA4 hA3 hA2 hA1 hA0
        simp only [Act.put, List.setIfInBounds_toArray, List.set_cons_zero, List.set_cons_succ]

        obtain ⟨w2, hw2⟩ : ∃ w2, w2 = X.setCell ⟨q + 3, 5, none⟩ (.slice va vl vc') := ⟨_, rfl⟩
        rw [← hw2]
        have HF2 : Hid (Fw W w2 q nt nb nv sv (.slice va vl vc') acc acc cb f ss ((.slice none 0 0, .slice a4 lC c4, 0) :: fs) K) := by rw [hw2]; exact HXF.out
        clear HXF hw2 HROW HUN x0 x1 x2 x3 x4 u5
        obtain ⟨x0, x1, x2, x3, x4⟩ := HCE.out w2 HF2.out.bel
        obtain ⟨_, _, _, _, _, u5, _⟩ := HF2.out.cells
        have HUN : Hid ((((.slice none 0 0, .slice a4 lC c4, 0) : Fs) :: fs).length = vl) := by
          obtain ⟨_, _, a, c, e⟩ := HF2.out.few
          simp only [Value.slice.injEq] at e
          exact e.2.1.symm
        have hvl : vl ≤ 30000000 := by have := HUN.out; have := HFS.out; simp only [List.length_cons] at *; omega
        by_cases hE : lE = 0
        · have HX2 : Hid _ := HFIN.out _ _ _ w2 hn1 (by rw [if_neg (by omega)]; exact HF2.out)
          subst hE
          clear HFIN
          go_wp2_with fail
          go_end0
          exact ⟨rfl, HX2.out⟩
        · have hE' : (0 : Int) < (lE : Int) := by omega
          have HFI2 : Hid (∀ uv' w', Fw W w' q nt nb nv sv uv' acc acc cb f ss ((.slice a3 lE c3, .slice none 0 0, 0) :: (.slice none 0 0, .slice a4 lC c4, 0) :: fs) K → PST w') := fun uv' w' h => HFIN.out _ _ uv' w' hn1 (by rw [if_pos (show 0 < lE by omega)]; exact h)
          have HROW : Hid ((World.drew w2).ownsRow (q + 4) 109 3 (.slice va vl vc') vl (ucells ((.slice none 0 0, .slice a4 lC c4, 0) :: fs))) := by
            have := HF2.out.und
            rw [HUN.out] at this
            exact this
          clear HFIN hE
          go_wp2_with fail
          have u5a : ((World.drew w2).alloc (.cells #[(.slice a3 lE c3), .slice none 0 0, .int .i64 0] 109)).cell? ⟨q + 3, 5, none⟩ = some (.slice va vl vc') := cell_later ((Below.refl _ _).drew.alloc (Nat.le_refl _) _) u5
          refine wp_region_any (by kernel_rfl) ?_
          change wpAny _ _ _ _ _ _ _ (World.drew _)
          generalize hA0 : (Act.mk _ _) = A0
          have z0 : A0.tmps.size = 55 := by rw [← hA0]; rfl
          have e0_0 : A0.eval (.tmp 0) = (.pointer (some ⟨q + 3, 0, none⟩)) := by rw [← hA0]; rfl
          have e1_0 : A0.eval (.tmp 1) = (.pointer (some ⟨g, o, none⟩)) := by rw [← hA0]; rfl
          refine wpAny_take (i := 0) (v := (.pointer (some ⟨q + 3, 0, none⟩))) rfl (by kernel_rfl) (by kernel_rfl) (by kernel_rfl) (fun _ _ _ h => h) (Or.inl ⟨rfl, fun w => ?_⟩) ?_
          · rw [BigFrame.run_move (.tmp 0) rfl w, e0_0]
          change wpAny _ _ _ _ _ _ (Act.put A0 (some 41) ((.pointer (some ⟨q + 3, 0, none⟩)))) _
          generalize hA1 : Act.put A0 (some 41) ((.pointer (some ⟨q + 3, 0, none⟩))) = A1
          have z1 : A1.tmps.size = 55 := by rw [← hA1, put_size]; exact z0
          have e0_1 : A1.eval (.tmp 0) = (.pointer (some ⟨q + 3, 0, none⟩)) := by rw [← hA1, put_ne (by decide)]; exact e0_0
          have e1_1 : A1.eval (.tmp 1) = (.pointer (some ⟨g, o, none⟩)) := by rw [← hA1, put_ne (by decide)]; exact e1_0
          have e41_1 : A1.eval (.tmp 41) = (.pointer (some ⟨q + 3, 0, none⟩)) := by rw [← hA1]; exact put_same (by rw [z0]; decide)
          clear e0_0 e1_0 z0
          refine wpAny_take (i := 1) (v := (.pointer (some ⟨q + 3, 0, none⟩))) rfl (by kernel_rfl) (by kernel_rfl) (by kernel_rfl) (fun _ _ _ h => h) (Or.inl ⟨rfl, fun w => ?_⟩) ?_
          · rw [BigFrame.run_move (.tmp 0) rfl w, e0_1]
          change wpAny _ _ _ _ _ _ (Act.put A1 (some 42) ((.pointer (some ⟨q + 3, 0, none⟩)))) _
          generalize hA2 : Act.put A1 (some 42) ((.pointer (some ⟨q + 3, 0, none⟩))) = A2
          have z2 : A2.tmps.size = 55 := by rw [← hA2, put_size]; exact z1
          have e0_2 : A2.eval (.tmp 0) = (.pointer (some ⟨q + 3, 0, none⟩)) := by rw [← hA2, put_ne (by decide)]; exact e0_1
          have e1_2 : A2.eval (.tmp 1) = (.pointer (some ⟨g, o, none⟩)) := by rw [← hA2, put_ne (by decide)]; exact e1_1
          have e41_2 : A2.eval (.tmp 41) = (.pointer (some ⟨q + 3, 0, none⟩)) := by rw [← hA2, put_ne (by decide)]; exact e41_1
          have e42_2 : A2.eval (.tmp 42) = (.pointer (some ⟨q + 3, 0, none⟩)) := by rw [← hA2]; exact put_same (by rw [z1]; decide)
          clear e0_1 e1_1 e41_1 z1
          refine wpAny_take (i := 2) (v := (.pointer (some ⟨q + 3, 0, none⟩))) rfl (by kernel_rfl) (by kernel_rfl) (by kernel_rfl) (fun _ _ _ h => h) (Or.inl ⟨rfl, fun w => ?_⟩) ?_
          · exact run_nilCheck rfl e42_2 w
          change wpAny _ _ _ _ _ _ (Act.put A2 (some 43) ((.pointer (some ⟨q + 3, 0, none⟩)))) _
          generalize hA3 : Act.put A2 (some 43) ((.pointer (some ⟨q + 3, 0, none⟩))) = A3
          have z3 : A3.tmps.size = 55 := by rw [← hA3, put_size]; exact z2
          have e0_3 : A3.eval (.tmp 0) = (.pointer (some ⟨q + 3, 0, none⟩)) := by rw [← hA3, put_ne (by decide)]; exact e0_2
          have e1_3 : A3.eval (.tmp 1) = (.pointer (some ⟨g, o, none⟩)) := by rw [← hA3, put_ne (by decide)]; exact e1_2
          have e41_3 : A3.eval (.tmp 41) = (.pointer (some ⟨q + 3, 0, none⟩)) := by rw [← hA3, put_ne (by decide)]; exact e41_2
          have e42_3 : A3.eval (.tmp 42) = (.pointer (some ⟨q + 3, 0, none⟩)) := by rw [← hA3, put_ne (by decide)]; exact e42_2
          have e43_3 : A3.eval (.tmp 43) = (.pointer (some ⟨q + 3, 0, none⟩)) := by rw [← hA3]; exact put_same (by rw [z2]; decide)
          clear e0_2 e1_2 e41_2 e42_2 z2
          refine wpAny_take (i := 3) (v := (.pointer (some ⟨q + 3, 5, none⟩))) rfl (by kernel_rfl) (by kernel_rfl) (by kernel_rfl) (fun _ _ _ h => h) (Or.inl ⟨rfl, fun w => ?_⟩) ?_
          · exact run_fieldAddr (Try.fieldU _ _) rfl e43_3 w
          change wpAny _ _ _ _ _ _ (Act.put A3 (some 44) ((.pointer (some ⟨q + 3, 5, none⟩)))) _
          generalize hA4 : Act.put A3 (some 44) ((.pointer (some ⟨q + 3, 5, none⟩))) = A4
          have z4 : A4.tmps.size = 55 := by rw [← hA4, put_size]; exact z3
          have e0_4 : A4.eval (.tmp 0) = (.pointer (some ⟨q + 3, 0, none⟩)) := by rw [← hA4, put_ne (by decide)]; exact e0_3
          have e1_4 : A4.eval (.tmp 1) = (.pointer (some ⟨g, o, none⟩)) := by rw [← hA4, put_ne (by decide)]; exact e1_3
          have e41_4 : A4.eval (.tmp 41) = (.pointer (some ⟨q + 3, 0, none⟩)) := by rw [← hA4, put_ne (by decide)]; exact e41_3
          have e42_4 : A4.eval (.tmp 42) = (.pointer (some ⟨q + 3, 0, none⟩)) := by rw [← hA4, put_ne (by decide)]; exact e42_3
          have e43_4 : A4.eval (.tmp 43) = (.pointer (some ⟨q + 3, 0, none⟩)) := by rw [← hA4, put_ne (by decide)]; exact e43_3
          have e44_4 : A4.eval (.tmp 44) = (.pointer (some ⟨q + 3, 5, none⟩)) := by rw [← hA4]; exact put_same (by rw [z3]; decide)
          clear e0_3 e1_3 e41_3 e42_3 e43_3 z3
          refine wpAny_take (i := 5) (v := (.pointer (some ⟨g, o, none⟩))) rfl (by kernel_rfl) (by kernel_rfl) (by kernel_rfl) (fun _ _ _ h => h) (Or.inl ⟨rfl, fun w => ?_⟩) ?_
          · rw [BigFrame.run_move (.tmp 1) rfl w, e1_4]
          change wpAny _ _ _ _ _ _ (Act.put A4 (some 46) ((.pointer (some ⟨g, o, none⟩)))) _
          generalize hA5 : Act.put A4 (some 46) ((.pointer (some ⟨g, o, none⟩))) = A5
          have z5 : A5.tmps.size = 55 := by rw [← hA5, put_size]; exact z4
          have e0_5 : A5.eval (.tmp 0) = (.pointer (some ⟨q + 3, 0, none⟩)) := by rw [← hA5, put_ne (by decide)]; exact e0_4
          have e1_5 : A5.eval (.tmp 1) = (.pointer (some ⟨g, o, none⟩)) := by rw [← hA5, put_ne (by decide)]; exact e1_4
          have e41_5 : A5.eval (.tmp 41) = (.pointer (some ⟨q + 3, 0, none⟩)) := by rw [← hA5, put_ne (by decide)]; exact e41_4
          have e42_5 : A5.eval (.tmp 42) = (.pointer (some ⟨q + 3, 0, none⟩)) := by rw [← hA5, put_ne (by decide)]; exact e42_4
          have e43_5 : A5.eval (.tmp 43) = (.pointer (some ⟨q + 3, 0, none⟩)) := by rw [← hA5, put_ne (by decide)]; exact e43_4
          have e44_5 : A5.eval (.tmp 44) = (.pointer (some ⟨q + 3, 5, none⟩)) := by rw [← hA5, put_ne (by decide)]; exact e44_4
          have e46_5 : A5.eval (.tmp 46) = (.pointer (some ⟨g, o, none⟩)) := by rw [← hA5]; exact put_same (by rw [z4]; decide)
          clear e0_4 e1_4 e41_4 e42_4 e43_4 e44_4 z4
          refine wpAny_take (i := 6) (v := (.pointer (some ⟨g, o, none⟩))) rfl (by kernel_rfl) (by kernel_rfl) (by kernel_rfl) (fun _ _ _ h => h) (Or.inl ⟨rfl, fun w => ?_⟩) ?_
          · exact run_nilCheck rfl e46_5 w
          change wpAny _ _ _ _ _ _ (Act.put A5 (some 47) ((.pointer (some ⟨g, o, none⟩)))) _
          generalize hA6 : Act.put A5 (some 47) ((.pointer (some ⟨g, o, none⟩))) = A6
          have z6 : A6.tmps.size = 55 := by rw [← hA6, put_size]; exact z5
          have e0_6 : A6.eval (.tmp 0) = (.pointer (some ⟨q + 3, 0, none⟩)) := by rw [← hA6, put_ne (by decide)]; exact e0_5
          have e1_6 : A6.eval (.tmp 1) = (.pointer (some ⟨g, o, none⟩)) := by rw [← hA6, put_ne (by decide)]; exact e1_5
          have e41_6 : A6.eval (.tmp 41) = (.pointer (some ⟨q + 3, 0, none⟩)) := by rw [← hA6, put_ne (by decide)]; exact e41_5
          have e42_6 : A6.eval (.tmp 42) = (.pointer (some ⟨q + 3, 0, none⟩)) := by rw [← hA6, put_ne (by decide)]; exact e42_5
          have e43_6 : A6.eval (.tmp 43) = (.pointer (some ⟨q + 3, 0, none⟩)) := by rw [← hA6, put_ne (by decide)]; exact e43_5
          have e44_6 : A6.eval (.tmp 44) = (.pointer (some ⟨q + 3, 5, none⟩)) := by rw [← hA6, put_ne (by decide)]; exact e44_5
          have e46_6 : A6.eval (.tmp 46) = (.pointer (some ⟨g, o, none⟩)) := by rw [← hA6, put_ne (by decide)]; exact e46_5
          have e47_6 : A6.eval (.tmp 47) = (.pointer (some ⟨g, o, none⟩)) := by rw [← hA6]; exact put_same (by rw [z5]; decide)
          clear e0_5 e1_5 e41_5 e42_5 e43_5 e44_5 e46_5 z5
          refine wpAny_take (i := 7) (v := (.pointer (some ⟨g, o + 3, none⟩))) rfl (by kernel_rfl) (by kernel_rfl) (by kernel_rfl) (fun _ _ _ h => h) (Or.inl ⟨rfl, fun w => ?_⟩) ?_
          · exact run_fieldAddr (Try.fieldX3 _ _) rfl e47_6 w
          change wpAny _ _ _ _ _ _ (Act.put A6 (some 48) ((.pointer (some ⟨g, o + 3, none⟩)))) _
          generalize hA7 : Act.put A6 (some 48) ((.pointer (some ⟨g, o + 3, none⟩))) = A7
          have z7 : A7.tmps.size = 55 := by rw [← hA7, put_size]; exact z6
          have e0_7 : A7.eval (.tmp 0) = (.pointer (some ⟨q + 3, 0, none⟩)) := by rw [← hA7, put_ne (by decide)]; exact e0_6
          have e1_7 : A7.eval (.tmp 1) = (.pointer (some ⟨g, o, none⟩)) := by rw [← hA7, put_ne (by decide)]; exact e1_6
          have e41_7 : A7.eval (.tmp 41) = (.pointer (some ⟨q + 3, 0, none⟩)) := by rw [← hA7, put_ne (by decide)]; exact e41_6
          have e42_7 : A7.eval (.tmp 42) = (.pointer (some ⟨q + 3, 0, none⟩)) := by rw [← hA7, put_ne (by decide)]; exact e42_6
          have e43_7 : A7.eval (.tmp 43) = (.pointer (some ⟨q + 3, 0, none⟩)) := by rw [← hA7, put_ne (by decide)]; exact e43_6
          have e44_7 : A7.eval (.tmp 44) = (.pointer (some ⟨q + 3, 5, none⟩)) := by rw [← hA7, put_ne (by decide)]; exact e44_6
          have e46_7 : A7.eval (.tmp 46) = (.pointer (some ⟨g, o, none⟩)) := by rw [← hA7, put_ne (by decide)]; exact e46_6
          have e47_7 : A7.eval (.tmp 47) = (.pointer (some ⟨g, o, none⟩)) := by rw [← hA7, put_ne (by decide)]; exact e47_6
          have e48_7 : A7.eval (.tmp 48) = (.pointer (some ⟨g, o + 3, none⟩)) := by rw [← hA7]; exact put_same (by rw [z6]; decide)
          clear e0_6 e1_6 e41_6 e42_6 e43_6 e44_6 e46_6 e47_6 z6
          refine wpAny_inter (s4 := 44) (s8 := 48) (d4 := 45) (d8 := 49) (d9 := 50) (d10 := 51) (v4 := .slice va vl vc') (v8 := (.slice a3 lE c3)) (v9 := (.agg #[(.slice a3 lE c3), .slice none 0 0, .int .i64 0])) (v10 := .slice (some ⟨w2.heap.size, 0, none⟩) 1 1) (w' := (World.drew w2).alloc (.cells #[(.slice a3 lE c3), .slice none 0 0, .int .i64 0] 109)) rfl rfl rfl rfl (by rw [z7]; decide) (by decide) (by kernel_rfl) (by kernel_rfl) (by kernel_rfl) (by kernel_rfl) (by kernel_rfl) (by kernel_rfl) (by kernel_rfl) ⟨rfl, rfl⟩ ⟨rfl, rfl⟩ ⟨rfl, rfl⟩ ⟨rfl, rfl⟩ e44_7 e48_7 (fun b hb => run_load (Try.loadU _ _ _ _ _ u5) rfl hb) (fun b hb => run_load (Try.loadU _ _ _ _ _ u5a) rfl hb) (fun b hb => run_load (Try.load3 _ _ _ _ _ x3) rfl hb) (fun b hb => run_build (Try.build3 _ _ _) rfl hb _) (fun b hb => run_buildSlice (Try.buildU3 _ _ _ _) rfl hb) ?_
          generalize hA8 : Act.put A7 (some 45) (.slice va vl vc') = A8
          have z8 : A8.tmps.size = 55 := by rw [← hA8, put_size]; exact z7
          have e41_8 : A8.eval (.tmp 41) = (.pointer (some ⟨q + 3, 0, none⟩)) := by rw [← hA8, put_ne (by decide)]; exact e41_7
          have e45_8 : A8.eval (.tmp 45) = .slice va vl vc' := by rw [← hA8]; exact put_same (by rw [z7]; decide)
          clear e0_7 e1_7 e41_7 e42_7 e43_7 e44_7 e46_7 e47_7 e48_7 z7
          generalize hA9 : Act.put A8 (some 49) ((.slice a3 lE c3)) = A9
          have z9 : A9.tmps.size = 55 := by rw [← hA9, put_size]; exact z8
          have e41_9 : A9.eval (.tmp 41) = (.pointer (some ⟨q + 3, 0, none⟩)) := by rw [← hA9, put_ne (by decide)]; exact e41_8
          have e45_9 : A9.eval (.tmp 45) = .slice va vl vc' := by rw [← hA9, put_ne (by decide)]; exact e45_8
          have e49_9 : A9.eval (.tmp 49) = (.slice a3 lE c3) := by rw [← hA9]; exact put_same (by rw [z8]; decide)
          clear e41_8 e45_8 z8
          generalize hA10 : Act.put A9 (some 50) ((.agg #[(.slice a3 lE c3), .slice none 0 0, .int .i64 0])) = A10
          have z10 : A10.tmps.size = 55 := by rw [← hA10, put_size]; exact z9
          have e41_10 : A10.eval (.tmp 41) = (.pointer (some ⟨q + 3, 0, none⟩)) := by rw [← hA10, put_ne (by decide)]; exact e41_9
          have e45_10 : A10.eval (.tmp 45) = .slice va vl vc' := by rw [← hA10, put_ne (by decide)]; exact e45_9
          have e50_10 : A10.eval (.tmp 50) = (.agg #[(.slice a3 lE c3), .slice none 0 0, .int .i64 0]) := by rw [← hA10]; exact put_same (by rw [z9]; decide)
          clear e41_9 e45_9 e49_9 z9
          generalize hA11 : Act.put A10 (some 51) ((.slice (some ⟨w2.heap.size, 0, none⟩) 1 1)) = A11
          have z11 : A11.tmps.size = 55 := by rw [← hA11, put_size]; exact z10
          have e41_11 : A11.eval (.tmp 41) = (.pointer (some ⟨q + 3, 0, none⟩)) := by rw [← hA11, put_ne (by decide)]; exact e41_10
          have e45_11 : A11.eval (.tmp 45) = .slice va vl vc' := by rw [← hA11, put_ne (by decide)]; exact e45_10
          have e51_11 : A11.eval (.tmp 51) = (.slice (some ⟨w2.heap.size, 0, none⟩) 1 1) := by rw [← hA11]; exact put_same (by rw [z10]; decide)
          clear e41_10 e45_10 e50_10 z10
          refine wpAny_ready (rs := [11]) (by kernel_rfl) (by simp) ?_
          refine AllReady.cons rfl (fun K hK => ?_) AllReady.nil
          refine step_append_own rfl (.tmp 45) (.tmp 51) 65 rfl (q + 4) 109 j0 (.agg #[.slice none 0 0, .slice none 0 0, .int .i64 0]) 3 56 Try.underlying65 hj hj0 hj1 hj2 rfl (by decide) (.slice va vl vc') vl _ e45_11 (HROW.out.alloc _) ⟨w2.heap.size, 0, none⟩ 1 1 [(.slice a3 lE c3), .slice none 0 0, .int .i64 0] e51_11 rfl (three_put (World.drew w2) _ _ _ _) (by intro u hu; simp at hu; rcases hu with rfl | rfl | rfl <;> rfl) (by unfold maxLen; omega) (by omega) (by have := HF2.out.sz; simp; omega) ?_
          intro v' X hown5 hgrow5 hat5
          refine hK _ _ ?_
          clear hK K
          have HXF : Hid _ := (HF2.out.later ((Below.refl _ _).drew.alloc (Nat.le_refl _) (.cells #[(.slice a3 lE c3), .slice none 0 0, .int .i64 0] 109))).put_und (fs' := ((.slice a3 lE c3), .slice none 0 0, 0) :: (.slice none 0 0, .slice a4 lC c4, 0) :: fs) (by rw [ucells_cons]; have := hown5; rw [← HUN.out] at this; exact this) hgrow5 hat5
          have hr5 := (HF2.out.later ((Below.refl _ _).drew.alloc (Nat.le_refl _) (.cells #[(.slice a3 lE c3), .slice none 0 0, .int .i64 0] 109))).rowTo_und hgrow5
          have hc5 : X.cell? ⟨q + 3, 5, none⟩ = some (.slice va vl vc') := by rw [cell_of_row X _ 5 _ _ _ hr5]; rfl
          have hz5 : X.frozen? ⟨q + 3, 5, none⟩ = false := frozen_of_row X _ _ _ _ hr5
          obtain ⟨va, vl, vc', rfl⟩ := row_slice hown5
          clear hown5 hgrow5 hat5 hr5
          change wpAny _ _ _ _ _ _ (Act.put A11 (some 52) (.slice va vl vc')) _
          generalize hA12 : Act.put A11 (some 52) (.slice va vl vc') = A12
          have z12 : A12.tmps.size = 55 := by rw [← hA12, put_size]; exact z11
          have e41_12 : A12.eval (.tmp 41) = (.pointer (some ⟨q + 3, 0, none⟩)) := by rw [← hA12, put_ne (by decide)]; exact e41_11
          have e52_12 : A12.eval (.tmp 52) = .slice va vl vc' := by rw [← hA12]; exact put_same (by rw [z11]; decide)
          clear e41_11 e45_11 e51_11 z11
          refine wpAny_take (i := 12) (v := (.pointer (some ⟨q + 3, 0, none⟩))) rfl (by kernel_rfl) (by kernel_rfl) (by kernel_rfl) (fun _ _ _ h => h) (Or.inl ⟨rfl, fun w => ?_⟩) ?_
          · exact run_nilCheck rfl e41_12 w
          change wpAny _ _ _ _ _ _ (Act.put A12 (some 53) ((.pointer (some ⟨q + 3, 0, none⟩)))) _
          generalize hA13 : Act.put A12 (some 53) ((.pointer (some ⟨q + 3, 0, none⟩))) = A13
          have z13 : A13.tmps.size = 55 := by rw [← hA13, put_size]; exact z12
          have e52_13 : A13.eval (.tmp 52) = .slice va vl vc' := by rw [← hA13, put_ne (by decide)]; exact e52_12
          have e53_13 : A13.eval (.tmp 53) = (.pointer (some ⟨q + 3, 0, none⟩)) := by rw [← hA13]; exact put_same (by rw [z12]; decide)
          clear e41_12 e52_12 z12
          refine wpAny_take (i := 13) (v := (.pointer (some ⟨q + 3, 5, none⟩))) rfl (by kernel_rfl) (by kernel_rfl) (by kernel_rfl) (fun _ _ _ h => h) (Or.inl ⟨rfl, fun w => ?_⟩) ?_
          · exact run_fieldAddr (Try.fieldU _ _) rfl e53_13 w
          change wpAny _ _ _ _ _ _ (Act.put A13 (some 54) ((.pointer (some ⟨q + 3, 5, none⟩)))) _
          generalize hA14 : Act.put A13 (some 54) ((.pointer (some ⟨q + 3, 5, none⟩))) = A14
          have z14 : A14.tmps.size = 55 := by rw [← hA14, put_size]; exact z13
          have e52_14 : A14.eval (.tmp 52) = .slice va vl vc' := by rw [← hA14, put_ne (by decide)]; exact e52_13
          have e54_14 : A14.eval (.tmp 54) = (.pointer (some ⟨q + 3, 5, none⟩)) := by rw [← hA14]; exact put_same (by rw [z13]; decide)
          clear e52_13 e53_13 z13
          refine wpAny_ready (rs := [14]) (by kernel_rfl) (by simp) ?_
          refine AllReady.cons rfl (fun K hK => ?_) AllReady.nil
          refine step_skip rfl (run_store (Try.storeU _ _ _ _ _ _ _ _ hc5 hz5) rfl e54_14 e52_14) (hK _ _ ?_)
          clear hK K hc5 hz5
          change wpAny _ _ _ _ _ _ A14 _
          refine wpAny_done (by kernel_rfl) ?_ _
          clear e54_14 e52_14 z14
          subst hA14 hA13 hA12 hA11 hA10 hA9 hA8 hA7 hA6 hA5 hA4 hA3 hA2 hA1 hA0
          simp only [Act.put, List.setIfInBounds_toArray, List.set_cons_zero, List.set_cons_succ]

          have HX2 : Hid _ := HFI2.out _ _ HXF.out
          clear HXF HFI2
          go_wp2_with fail
          go_end0
          exact ⟨rfl, HX2.out⟩


end Go.Proofs.Ytpokheklplcamaa

/- The program's FreeOf: the next of a list under way, as data. -/
namespace Go.Proofs.Ytpokheklplcamaa
open Go.RowKit
set_option linter.unusedVariables false

theorem drop_next {α : Type} {xs : List α} {i : Nat} {x : α} (h : xs[i]? = some x) : xs.drop i = x :: xs.drop (i + 1) := by
  obtain ⟨h1, rfl⟩ := List.getElem?_eq_some_iff.1 h
  exact List.drop_eq_getElem_cons h1

theorem PtF.next {W : World} {fr : Fs} {b : List ByteArray} {r1 : List Nat} {R1 : Nat} {F1 : List ByteArray → List ByteArray} (h : PtF W fr b r1 R1 F1) :
    ∃ d n g c cur, fr.1 = .slice (some ⟨g, 0, none⟩) n c ∧ fr.2.1 = .slice none 0 0 ∧ W.heap[g]? = some (.cells cur 27 (0, 0)) ∧ 0 < n ∧ n ≤ 1048576 ∧ fr.2.2 ≤ n ∧ (fr.2.2 = 0 → g ∈ r1) ∧ (fr.2.2 = n → ∀ o, F1 o = o) ∧
      (fr.2.2 < n → ∃ vs, ∃ x : Ex d, ∃ fx r1' R1' F1', ExO d W vs x fx ∧ szX d x ≤ 1048576 ∧ (∀ (j : Nat) (u : Value), vs[j]? = some u → cur[fr.2.2 * 5 + j]? = some u) ∧ PtF W (fr.1, fr.2.1, fr.2.2 + 1) b r1' R1' F1' ∧ (∀ k, (if fr.2.2 = 0 then [g] else []).count k + fx.count k + r1'.count k = r1.count k) ∧ R1 = wkF d x + R1' ∧ ∀ o, F1 o = F1' (freeX d b o x)) := by
  obtain ⟨d, xs, g, c, cur, fps, h1, h2, h3, h4, h5, h6, h7, h8, h9, h10, h11⟩ := h
  refine ⟨d, xs.length, g, c, cur, h1, h2, h3, h5, h6, h7, fun e => ?_, fun e o => ?_, fun e => ?_⟩
  · rw [h9, if_pos e]; simp
  · rw [h11, e, List.drop_length]; rfl
  · obtain ⟨x, hx⟩ : ∃ x, xs[fr.2.2]? = some x := ⟨_, List.getElem?_eq_getElem e⟩
    obtain ⟨vs, fx, q1, q2, q3, q4, q5⟩ := h8 _ x hx
    refine ⟨vs, x, fx, (fps.drop (fr.2.2 + 1)).flatten, 1 + ((xs.drop (fr.2.2 + 1)).map fun x => wkF d x).sum, fun o => (xs.drop (fr.2.2 + 1)).foldl (fun o x => freeX d b o x) o, q4, q5, q3, ⟨d, xs, g, c, cur, fps, h1, h2, h3, h4, h5, h6, e, h8, ?_, rfl, rfl⟩, fun k => ?_, ?_, fun o => ?_⟩
    · rw [if_neg (by simp)]; rfl
    · rw [h9, drop_next q1, List.flatten_cons]; simp only [List.count_append]; omega
    · rw [h10, drop_next hx, List.map_cons, List.sum_cons]; omega
    · rw [h11, drop_next hx]; rfl

theorem ClF'.next {W : World} {fr : Fs} {b : List ByteArray} {r1 : List Nat} {R1 : Nat} {F1 : List ByteArray → List ByteArray} (h : ClF' W fr b r1 R1 F1) :
    ∃ d n g c cur, fr.2.1 = .slice (some ⟨g, 0, none⟩) n c ∧ fr.1 = .slice none 0 0 ∧ W.heap[g]? = some (.cells cur 33 (0, 0)) ∧ 0 < n ∧ n ≤ 1048576 ∧ fr.2.2 ≤ n ∧ (fr.2.2 = 0 → g ∈ r1) ∧ (fr.2.2 = n → ∀ o, F1 o = o) ∧
      (fr.2.2 < n → ∃ vs us, ∃ p x : Ex d, ∃ fp fx r1' R1' F1', ExO d W vs p fp ∧ ExO d W us x fx ∧ szX d p ≤ 1048576 ∧ szX d x ≤ 1048576 ∧ vs.length = 5 ∧ (∀ (j : Nat) (u : Value), (vs ++ us)[j]? = some u → cur[fr.2.2 * 10 + j]? = some u) ∧ ClF' W (fr.1, fr.2.1, fr.2.2 + 1) b r1' R1' F1' ∧ (∀ k, (if fr.2.2 = 0 then [g] else []).count k + fp.count k + fx.count k + r1'.count k = r1.count k) ∧ R1 = 8 + (vars d p).length + wkF d x + R1' ∧ ∀ o, F1 o = F1' (freeX d (b ++ vars d p) o x)) := by
  obtain ⟨d, xs, g, c, cur, fps, h1, h2, h3, h4, h5, h6, h7, h8, h9, h10, h11⟩ := h
  refine ⟨d, xs.length, g, c, cur, h1, h2, h3, h5, h6, h7, fun e => ?_, fun e o => ?_, fun e => ?_⟩
  · rw [h9, if_pos e]; simp
  · rw [h11, e, List.drop_length]; rfl
  · obtain ⟨x, hx⟩ : ∃ x, xs[fr.2.2]? = some x := ⟨_, List.getElem?_eq_getElem e⟩
    obtain ⟨vs, us, fp, fx, q1, q2, q2', q3, q4, q5, q6, q7⟩ := h8 _ x hx
    refine ⟨vs, us, x.1, x.2, fp, fx, (fps.drop (fr.2.2 + 1)).flatten, 1 + ((xs.drop (fr.2.2 + 1)).map fun c => 8 + (vars d c.1).length + wkF d c.2).sum, fun o => (xs.drop (fr.2.2 + 1)).foldl (fun o c => freeX d (b ++ vars d c.1) o c.2) o, q4, q5, q6, q7, q2, q3, ⟨d, xs, g, c, cur, fps, h1, h2, h3, h4, h5, h6, e, h8, ?_, rfl, rfl⟩, fun k => ?_, ?_, fun o => ?_⟩
    · rw [if_neg (by simp)]; rfl
    · rw [h9, drop_next q1, List.flatten_cons]; simp only [List.count_append]; omega
    · rw [h10, drop_next hx, List.map_cons, List.sum_cons]; omega
    · rw [h11, drop_next hx]; rfl

/-- What is met is met: nothing of what is left. -/
theorem met_next {f f' : Addr → Int → Option Value} {z g : Nat} {l l' : List Nat} (hz : ∀ k, (if z = 0 then [g] else []).count k + l'.count k ≤ l.count k) (hc : ∀ k, l.count k ≤ 1) (hf : ∀ x n v, f x n = some v → ¬ x.block ∈ l) (hf' : ∀ x n v, f' x n = some v → f x n = some v ∨ (z = 0 ∧ x.block = g)) : ∀ x n v, f' x n = some v → ¬ x.block ∈ l' := fun x n v hv hx => by
  have q1 := hz x.block
  have q2 := List.count_pos_iff.2 hx
  rcases hf' x n v hv with h | ⟨h1, h2⟩
  · exact hf x n v h (List.count_pos_iff.1 (by omega))
  · have q3 := hc x.block
    rw [if_pos h1, h2] at q1
    rw [h2] at q2 q3
    simp only [List.count_cons_self, List.count_nil] at q1
    omega

/-- The next of a list of expressions is in hand. -/
theorem Lf.nextP {W : World} {q nt nb : Nat} {acc : List ByteArray} {f f' : Addr → Int → Option Value} {fs : List Fs} {ss : List Sc} {cb : List ByteArray} {z g d R1 R1' R2 : Nat} {r1 r1' r2 fx : List Nat} {F1' F2 : List ByteArray → List ByteArray} {va vb : Value} {x : Ex d} (hP : PtF W (va, vb, z + 1) cb r1' R1' F1') (hT : FTS W fs ss cb r2 R2 F2) (hc : ∀ k, (r1 ++ r2).count k ≤ 1) (hq : ∀ k ∈ r1 ++ r2, k < q) (hf : ∀ x n v, f x n = some v → ¬ x.block ∈ r1 ++ r2) (hk : ∀ k, (if z = 0 then [g] else []).count k + fx.count k + r1'.count k = r1.count k) (hR : R1 = wkF d x + R1') (hb : nt + nb + acc.length + (R1 + R2 + 0) ≤ 20000000) (hf' : ∀ x n v, f' x n = some v → f x n = some v ∨ (z = 0 ∧ x.block = g)) :
    Lf W q nt nb acc f' ((va, vb, z + 1) :: fs) ss cb (fx ++ []) (wkF d x + 0) (R1' + R2) (fun o => F2 (F1' o)) := by
  have hm : ∀ k, (if z = 0 then [g] else []).count k + (fx ++ [] ++ (r1' ++ r2)).count k ≤ (r1 ++ r2).count k := fun k => by
    have := hk k
    simp only [List.count_append, List.count_nil]
    omega
  refine ⟨r1' ++ r2, .inl ⟨r1', R1', F1', r2, R2, F2, hP, hT, rfl, rfl, rfl⟩, fun k => by have := hm k; have := hc k; omega, fun k hk' => hq k (List.count_pos_iff.1 (by have := hm k; have := List.count_pos_iff.2 hk'; omega)), met_next hm hc hf hf', by omega⟩

/-- .. of clauses, whose names are bound. -/
theorem Lf.nextC {W : World} {q nt nb nb' : Nat} {acc : List ByteArray} {f f' : Addr → Int → Option Value} {fs : List Fs} {ss : List Sc} {sc : Sc} {cb b : List ByteArray} {z g d R1 R1' R2 : Nat} {r1 r1' r2 fp fx : List Nat} {F1' F2 : List ByteArray → List ByteArray} {va vb : Value} {p x : Ex d} (hP : ClF' W (va, vb, z + 1) b r1' R1' F1') (hT : FTS W fs ss b r2 R2 F2) (hs1 : ∀ y, y ∈ cb ↔ y ∈ sc.2 ∨ y ∈ b) (hs2 : ∀ y ∈ sc.2, ¬ y ∈ b) (hs3 : sc.2.length ≤ (vars d p).length) (hc : ∀ k, (r1 ++ r2).count k ≤ 1) (hq : ∀ k ∈ r1 ++ r2, k < q) (hf : ∀ x n v, f x n = some v → ¬ x.block ∈ r1 ++ r2) (hk : ∀ k, (if z = 0 then [g] else []).count k + fp.count k + fx.count k + r1'.count k = r1.count k) (hR : R1 = 8 + (vars d p).length + wkF d x + R1') (hb : nt + nb + acc.length + (R1 + R2 + 0) ≤ 20000000) (hnb : nb' ≤ nb + (vars d p).length) (hf' : ∀ x n v, f' x n = some v → f x n = some v ∨ (z = 0 ∧ x.block = g)) :
    Lf W q nt nb' acc f' ((va, vb, z + 1) :: fs) (sc :: ss) cb (fx ++ []) (wkF d x + 0) (R1' + R2) (fun o => F2 (F1' o)) := by
  have hm : ∀ k, (if z = 0 then [g] else []).count k + (fx ++ [] ++ (r1' ++ r2)).count k ≤ (r1 ++ r2).count k := fun k => by
    have := hk k
    simp only [List.count_append, List.count_nil]
    omega
  refine ⟨r1' ++ r2, .inr (.inr ⟨Nat.succ_pos _, sc, ss, b, r1', R1', F1', r2, R2, F2, rfl, hs1, hs2, by omega, hP, hT, rfl, rfl, rfl⟩), fun k => by have := hm k; have := hc k; omega, fun k hk' => hq k (List.count_pos_iff.1 (by have := hm k; have := List.count_pos_iff.2 hk'; omega)), met_next hm hc hf hf', by omega⟩

end Go.Proofs.Ytpokheklplcamaa

/- The program's FreeOf: one step of the walk. -/
namespace Go.Proofs.Ytpokheklplcamaa
open Go.RowKit
set_option linter.unusedVariables false

theorem Fw.pop_und {W wr : World} {q nt nb g n c : Nat} {nv sv : Value} {acc tl cb : List ByteArray} {f : Addr → Int → Option Value} {ss : List Sc} {fr : Fs} {fs : List Fs} {K : List (Nat × Obj)} (h : Fw W wr q nt nb nv sv (.slice (some ⟨g, 0, none⟩) n c) acc tl cb f ss (fr :: fs) K) (hn : n = fs.length + 1) : Fw W (wr.setCell ⟨q + 3, 5, none⟩ (.slice (some ⟨g, 0, none⟩) fs.length c)) q nt nb nv sv (.slice (some ⟨g, 0, none⟩) fs.length c) acc tl cb f ss fs K := by
  subst hn
  have hr := h.und
  rw [ucells_cons, List.length_cons] at hr
  exact h.put_und (row_short hr (ucells_len fs)) (grown_refl _ _) (.inl rfl)

theorem Fw.next_und {W wr : World} {q nt nb g n c z : Nat} {nv sv va vb : Value} {acc tl cb : List ByteArray} {f : Addr → Int → Option Value} {ss : List Sc} {fs : List Fs} {K : List (Nat × Obj)} (h : Fw W wr q nt nb nv sv (.slice (some ⟨g, 0, none⟩) n c) acc tl cb f ss ((va, vb, z) :: fs) K) (hn : n = fs.length + 1) : Fw W (wr.setCell ⟨g, fs.length * 3 + 2, none⟩ (.int .i64 ((z + 1 : Nat) : Int))) q nt nb nv sv (.slice (some ⟨g, 0, none⟩) n c) acc tl cb f ss ((va, vb, z + 1) :: fs) K := by
  subst hn
  have hs := h.sz
  have hb1 := h.bel
  have hgo : (Value.slice (some ⟨g, 0, none⟩) (fs.length + 1) c).ownBlock = some g := rfl
  have hgw := own_blk h.und g hgo
  have hoth : ∀ j, j ≠ g → (wr.setCell ⟨g, fs.length * 3 + 2, none⟩ (.int .i64 ((z + 1 : Nat) : Int))).heap[j]? = wr.heap[j]? := fun j hne => heap_setCell_other _ _ _ _ (by simpa using hne)
  obtain ⟨s1, s2, s3, s4⟩ := set_rest wr g (fs.length * 3 + 2) (.int .i64 ((z + 1 : Nat) : Int))
  have hrow := row_set h.und (k := fs.length * 3 + 2) (by first | omega | (simp only [List.length_cons]; omega)) (.int .i64 ((z + 1 : Nat) : Int))
  rw [ucells_cons, List.set_append_right _ _ (by rw [ucells_len]; omega), ucells_len, Nat.add_sub_cancel_left] at hrow
  refine ⟨⟨s1.trans hb1.os, s2.trans hb1.tape, s3.trans hb1.output, Nat.le_trans hb1.size s4, fun j hj => (hoth j (by omega)).trans (hb1.block j hj)⟩, h.wsz, (hoth _ (by omega)).trans h.row, rowKept h.names fun j hn => hoth j (fun e => rows_apart h.names h.und (by decide) j hn (by rw [e]; exact hgo)), rowKept h.scp fun j hn => hoth j (fun e => rows_apart h.scp h.und (by decide) j hn (by rw [e]; exact hgo)), by rw [ucells_cons]; exact hrow, h.told.kept (hoth _ (by omega)), h.bound.kept (hoth _ (by omega)), h.plain (fun j hj => hoth j (by omega)) (hoth _ (by omega)), h.keys, h.sces, fun k hk => ⟨(hoth _ (fun e => (h.ext k hk).2.2.2.2 (by rw [e]; exact hgo))).trans (h.ext k hk).1, (h.ext k hk).2⟩⟩

/-- Behind a step. -/
def GoP (W : World) (q R : Nat) (V : List ByteArray) (w' : World) : Prop := ∃ nt nb nv sv uv acc cb f ss fs K R' F', Fw W w' q nt nb nv sv uv acc acc cb f ss fs K ∧ Lf W q nt nb acc f fs ss cb [] 0 R' F' ∧ R' < R ∧ F' acc = V

theorem upd_met {f : Addr → Int → Option Value} {g l : Nat} {v : Value} {z : Nat} (hz : z = 0) : ∀ x n u, upd f ⟨g, 0, none⟩ l v x n = some u → f x n = some u ∨ (z = 0 ∧ x.block = g) := fun x n u hu => by
  unfold upd at hu
  by_cases h : x = ⟨g, 0, none⟩ ∧ n = l
  · exact .inr ⟨hz, by rw [h.1]⟩
  · rw [if_neg h] at hu; exact .inl hu

set_option maxRecDepth 100000 in
set_option maxHeartbeats 4000000 in
theorem goOnP {W wr : World} {q nt nb : Nat} {nv sv uv : Value} {acc cb : List ByteArray} {f : Addr → Int → Option Value} {ss : List Sc} {fs : List Fs} {K : List (Nat × Obj)} {z g len c0 d : Nat} {cur : Array Value} {r1 r2 : List Nat} {R1 R2 : Nat} {F1 F2 : List ByteArray → List ByteArray}
    (h : Fw W wr q nt nb nv sv uv acc acc cb f ss ((.slice (some ⟨g, 0, none⟩) len c0, .slice none 0 0, z) :: fs) K) (hT : FTS W fs ss cb r2 R2 F2) (hc : ∀ k, (r1 ++ r2).count k ≤ 1) (hq : ∀ k ∈ r1 ++ r2, k < q) (hf : ∀ x n v, f x n = some v → ¬ x.block ∈ r1 ++ r2) (hb : nt + nb + acc.length + (R1 + R2 + 0) ≤ 20000000) (hR0 : 0 < R1)
    (hg : W.heap[g]? = some (.cells cur 27 (0, 0))) (hgq : g < q) (hl0 : 0 < len) (hl1 : len ≤ 1048576) (hz : z ≤ len) (hmet : z = 0 → g ∈ r1) (hend : z = len → ∀ o, F1 o = o)
    (hnx : z < len → ∃ vs, ∃ x : Ex d, ∃ fx r1' R1' F1', ExO d W vs x fx ∧ szX d x ≤ 1048576 ∧ (∀ (j : Nat) (u : Value), vs[j]? = some u → cur[z * 5 + j]? = some u) ∧ PtF W (.slice (some ⟨g, 0, none⟩) len c0, .slice none 0 0, z + 1) cb r1' R1' F1' ∧ (∀ k, (if z = 0 then [g] else []).count k + fx.count k + r1'.count k = r1.count k) ∧ R1 = wkF d x + R1' ∧ ∀ o, F1 o = F1' (freeX d cb o x)) :
    Calls Try.prog 36 #[.pointer (some ⟨q + 3, 0, none⟩)] wr fun e w' => e = .returned (.tuple #[]) ∧ Hid (GoP W q (R1 + R2) (F2 (F1 acc)) w') := by
  have hfew : fs.length ≤ 20000000 ∧ ss.length ≤ 20000000 := by have := hT.few; omega
  have HEND : Hid (z = len → ∀ V : World, ∀ uv', Fw W V q nt nb nv sv uv' acc acc cb f ss fs K → GoP W q (R1 + R2) (F2 (F1 acc)) V) := fun e V uv' hV => ⟨nt, nb, nv, sv, uv', acc, cb, f, ss, fs, K, R2, F2, hV, ⟨r2, hT, fun k => by have := hc k; rw [List.count_append] at this; simp only [List.nil_append]; omega, fun k hk => hq k (by simp only [List.nil_append] at hk; exact List.mem_append_right _ hk), fun x n v hv hx => hf x n v hv (by simp only [List.nil_append] at hx; exact List.mem_append_right _ hx), by omega⟩, by omega, by rw [hend e]⟩
  have HGO : Hid (z < len → ∀ (V : World) (f' : Addr → Int → Option Value), (∀ x n v, f' x n = some v → f x n = some v ∨ (z = 0 ∧ x.block = g)) → ∀ uv', Fw W V q nt nb nv sv uv' acc acc cb f' ss ((.slice (some ⟨g, 0, none⟩) len c0, .slice none 0 0, z + 1) :: fs) K → Calls Try.prog 35 #[.pointer (some ⟨q + 3, 0, none⟩), .pointer (some ⟨g, z * 5, none⟩)] V fun e w' => e = .returned (.tuple #[]) ∧ Hid (GoP W q (R1 + R2) (F2 (F1 acc)) w')) := fun e V f' hf' uv' hV => by
    obtain ⟨vs, x, fx, r1', R1', F1', k1, k2, k3, k4, k5, k6, k7⟩ := hnx e
    refine (come_any hV d vs x fx [] k1 k2 g (z * 5) ⟨cur, _, hg, k3⟩ hgq 0 (R1' + R2) _ (Lf.nextP k4 hT hc hq hf k5 k6 hb hf')).mono ?_
    rintro e w' ⟨rfl, HQ⟩
    obtain ⟨nt', nv', uv'', acc', fs', R', F', m1, m2, m3, m4⟩ := HQ.out
    exact ⟨rfl, nt', nb, nv', sv, uv'', acc', cb, f', ss, fs', K, R', F', m1, m2, by omega, by rw [m4, k7]⟩
  have HFZ : Hid (z = 0 → f ⟨g, 0, none⟩ len = none) := fun e => by
    cases hv : f ⟨g, 0, none⟩ len with
    | none => rfl
    | some v => exact absurd (List.mem_append_left _ (hmet e)) (hf _ _ v hv)
  obtain ⟨VV, hVV⟩ : ∃ V, F2 (F1 acc) = V := ⟨_, rfl⟩
  obtain ⟨RR, hRR⟩ : ∃ R, R1 + R2 = R := ⟨_, rfl⟩
  rw [hVV, hRR] at HEND HGO ⊢
  have hss : ss.length ≤ 30000000 := by omega
  clear hT hc hq hf hb hR0 hmet hend hnx hVV hRR
  have hr := h.und
  rw [ucells_cons, List.length_cons] at hr
  obtain ⟨u, c, rfl, q1, q2, q3, q4, q5⟩ := rowlast_any hr (ucells_len fs)
  have t0 := q5 0 _ rfl
  have t1 := q5 1 _ rfl
  have t2 := q5 2 _ rfl
  rw [Nat.add_zero] at t0
  obtain ⟨n, hn⟩ : ∃ n, fs.length = n := ⟨_, rfl⟩
  have HN : Hid (fs.length = n) := hn
  obtain ⟨_, _, _, _, _, c5, _⟩ := h.cells
  rw [hn] at t0 t1 t2 q3 c5
  have HF : Hid (Fw W wr q nt nb nv sv _ acc acc cb f ss _ K) := h
  have hnb : n ≤ 20000000 := by rw [← hn]; exact hfew.1
  clear h hr q4 q5 hn
  go_enter Try.func36, Try.ntmps36
  go_wp2_with fail
  go_cut [2] (fun v wx => v = .pointer (some ⟨u, n * 3, none⟩) ∧ Hid (Below wr.heap.size wr wx))
  case first =>
    go_quiet (fail)
    go_wp2_with fail
    go_meet
    case rel => exact ⟨rfl, below_drewN (Below.refl _ _) _⟩
  case rest =>
  obtain ⟨rfl, HB1⟩ := hcut
  obtain ⟨w0, hw0⟩ : ∃ w0, w0 = wc := ⟨_, rfl⟩
  rw [← hw0] at HB1 ⊢
  have t0' := cell_later HB1.out t0
  have t1' := cell_later HB1.out t1
  have t2' := cell_later HB1.out t2
  have HF0 : Hid (Fw W w0 q nt nb nv sv _ acc acc cb f ss _ K) := HF.out.later HB1.out
  clear t0 t1 t2 HF HB1 hw0 c5
  go_wp2_with fail
  go_cut [3, 4, 5] (fun a b e wx => a = .slice (some ⟨g, 0, none⟩) len c0 ∧ b = .slice none 0 0 ∧ e = .int .i64 (z : Nat) ∧ Hid (Below w0.heap.size w0 wx))
  case first =>
    go_quiet (fail)
    go_wp2_with fail
    go_meet
    case rel => exact ⟨rfl, rfl, rfl, below_drewN (Below.refl _ _) _⟩
  case rest =>
  obtain ⟨rfl, rfl, rfl, HB1⟩ := hcut
  obtain ⟨w1, hw1⟩ : ∃ w1, w1 = wc := ⟨_, rfl⟩
  rw [← hw1] at HB1 ⊢
  have HF1 : Hid (Fw W w1 q nt nb nv sv (.slice (some ⟨u, 0, none⟩) (n + 1) c) acc acc cb f ss ((.slice (some ⟨g, 0, none⟩) len c0, .slice none 0 0, z) :: fs) K) := by rw [← HN.out]; exact HF0.out.later HB1.out
  clear t0' t1' t2' HF0 HB1 hw1

  have hNN := HN
  have hdt := HF1.out.und
  rw [ucells_cons, List.length_cons] at hdt
  obtain ⟨ut, ct, et, y1t, y2t, y3t, y4t, y5t⟩ := rowlast_any hdt (ucells_len fs)
  have eut : ut = u := by simp only [Value.slice.injEq, Option.some.injEq, Addr.mk.injEq, and_true] at et; exact et.1.symm
  rw [eut] at y5t y4t y2t y1t
  have t0 := y5t 0 _ rfl
  have t1 := y5t 1 _ rfl
  have t2 := y5t 2 _ rfl
  have tz := y4t (n * 3 + 2)
  rw [Nat.add_zero, HN.out] at t0
  rw [HN.out] at t1 t2
  have tu : u < _ := y2t
  have tq : q + 4 ≤ u := y1t
  clear hdt et eut y1t y2t y3t y4t y5t

  by_cases hzl : z = len
  · have HE := HEND.out hzl
    have hz0 : (0 : Int) < (z : Int) := by omega
    have hzl' : ((z : Int) == (len : Int)) = true := by simp; omega
    subst hzl
    clear HEND HGO HFZ t0 t1 t2 tz
    obtain ⟨_, _, _, _, _, v5, vz⟩ := HF1.out.cells
    have z5 := vz 5
    have hpz : q + 3 < w1.heap.size := by have := HF1.out.sz; omega
    have hpop := (HF1.out.pop_und (by rw [HN.out])).later (Below.refl _ _).drew
    rw [HN.out] at hpop
    have HP : Hid (Fw W _ q _ nb _ _ _ acc acc _ f _ fs K) := hpop
    clear vz hpop
    go_wp2_with fail
    go_region
    all_goals
      go_wp2_with fail
      ((try simp only [Exit.inBlock, Exit.then]); refine bodyPost_ret (results_none rfl _ _ _) rfl ?_)
      exact ⟨rfl, HE _ _ HP.out⟩

  · have hzl' : ((z : Int) == (len : Int)) = false := by simp; omega
    have HG := HGO.out (by omega)
    have hzlt : (z : Int) < (len : Int) := by omega
    by_cases hz0 : z = 0
    · subst hz0
      have hS := spotP_any u (n * 3) g len c0 hl0 hl1 w1 t0 t1 tu
      have HZ0 : Hid (f ⟨g, 0, none⟩ len = none) := HFZ.out rfl
      have HG0 : Hid (∀ (V : World) uv', Fw W V q nt nb nv sv uv' acc acc cb (upd f ⟨g, 0, none⟩ len (topS ss)) ss ((.slice (some ⟨g, 0, none⟩) len c0, .slice none 0 0, 0 + 1) :: fs) K → _) := fun V uv' hV => HG V _ (upd_met rfl) uv' hV
      clear HEND HGO HFZ HG
      go_wp2_with fail
      refine hS.mono ?_
      clear hS t0 t1 t2 tz tu tq
      rintro _ w2 ⟨rfl, hb2⟩
      have HF2 : Hid (Fw W w2 q nt nb nv sv (.slice (some ⟨u, 0, none⟩) (n + 1) c) acc acc cb f ss ((.slice (some ⟨g, 0, none⟩) len c0, .slice none 0 0, 0) :: fs) K) := HF1.out.later hb2
      have hO := opens_any HF2.out hss g len cur _ hg hgq HZ0.out
      clear hb2 HF1
      go_wp2_with fail
      refine hO.mono ?_
      clear hO
      rintro _ w3 ⟨rfl, HF3⟩
      have hdv := HF3.out.und
      rw [ucells_cons, List.length_cons] at hdv
      obtain ⟨uv, cv, ev, y1v, y2v, y3v, y4v, y5v⟩ := rowlast_any hdv (ucells_len fs)
      have euv : uv = u := by simp only [Value.slice.injEq, Option.some.injEq, Addr.mk.injEq, and_true] at ev; exact ev.1.symm
      rw [euv] at y5v y4v y2v y1v
      have v0 := y5v 0 _ rfl
      have v1 := y5v 1 _ rfl
      have v2 := y5v 2 _ rfl
      have vz := y4v (n * 3 + 2)
      rw [Nat.add_zero, HN.out] at v0
      rw [HN.out] at v1 v2
      have vu : u < _ := y2v
      have vq : q + 4 ≤ u := y1v
      clear hdv ev euv y1v y2v y3v y4v y5v

      have HF4 : Hid _ := HF3.out.next_und (by rw [HN.out])
      rw [HN.out] at HF4
      have hC := HG0.out _ _ HF4.out
      clear HF2 HF3 HF4 HG0 HZ0
      go_wp2_with fail
      refine hC.mono ?_
      clear hC
      rintro _ w5 ⟨rfl, HQ⟩
      go_wp2_with fail
      go_end0
      exact ⟨rfl, HQ.out⟩
    · have hz1 : (0 : Int) < (z : Int) := by omega
      have hz2 : ((z : Int) == 0) = false := by simp; omega
      have HF4 : Hid _ := HF1.out.next_und (by rw [HN.out])
      rw [HN.out] at HF4
      have hC := HG _ _ (fun x n v hv => .inl hv) _ HF4.out
      clear HEND HGO HF1 HF4 HG HFZ hz0
      go_wp2_with fail
      refine hC.mono ?_
      clear hC
      rintro _ w5 ⟨rfl, HQ⟩
      go_wp2_with fail
      go_end0
      exact ⟨rfl, HQ.out⟩

end Go.Proofs.Ytpokheklplcamaa
