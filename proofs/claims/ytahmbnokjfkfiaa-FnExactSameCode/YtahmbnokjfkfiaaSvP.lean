/- The program's likes of Pat: two lists that were never met are joined, and takenSame of them. -/
import Derived.Test.YtahmbnokjfkfiaaSv0
namespace Go.Proofs.Ytahmbnokjfkfiaa
open Go.RowKit
set_option linter.unusedVariables false

theorem eqPtrP (w : World) (x y : Addr) (hx : Plain w x) (hy : Plain w y) (d : Nat) : (Op.equalIn (d + 1) 91 (.pointer (some x)) (.pointer (some y))).run Try.prog w = .ok (decide (x = y)) w := by
  obtain ⟨i0, hi, hi0, hi1, hi2⟩ := info_parts Try.infoPat
  by_cases h : x = y
  · subst h
    simp [Op.equalIn, run_underlying Try.underlying91, sizeOf, typeInfo, hi, run_sameAddr_same]
  · obtain ⟨c1, t1, h1⟩ := hx
    obtain ⟨c2, t2, h2⟩ := hy
    have hz : i0.size ≠ 0 := by rw [hi1]; decide
    simp [Op.equalIn, run_underlying Try.underlying91, sizeOf, typeInfo, hi, hz, run_sameAddr_other w h h1 h2, h]

theorem eqSpotP (w : World) (x y : Addr) (n m : Int) (hx : Plain w x) (hy : Plain w y) (d : Nat) : (Op.equalIn (d + 1 + 1) 102 (skey x n) (skey y m)).run Try.prog w = .ok (decide (x = y ∧ n = m)) w := by
  have hp := eqPtrP w x y hx hy d
  have hn := eqInt3G w n m d
  unfold skey
  rw [Op.equalIn]
  simp only [Sem.run_bind, run_underlying Try.underlying102, Result.andThen_ok]
  by_cases h : x = y
  · by_cases h2 : n = m
    · subst h h2
      simp [part, Try.isAgg91, Try.isAgg3, hp, hn, Result.andThen]
    · subst h
      simp [part, Try.isAgg91, Try.isAgg3, hp, hn, h2, Result.andThen]
  · simp [part, Try.isAgg91, hp, h, Result.andThen]

theorem chkSpotP (w : World) (em : Bool) (x : Addr) (n : Int) (d : Nat) : (Instr.checkKey em (d + 1 + 1) 102 (skey x n)).run Try.prog w = .ok () w := by
  have h1 : (Instr.checkKey em (d + 1) 91 (.pointer (some x))).run Try.prog w = .ok () w := by
    rw [Instr.checkKey]; simp [run_underlying Try.underlying91]
  have h2 : (Instr.checkKey em (d + 1) 3 (.int .i64 n)).run Try.prog w = .ok () w := by
    rw [Instr.checkKey]; simp [run_underlying Try.underlying3]
  unfold skey
  rw [Instr.checkKey]
  simp [run_underlying Try.underlying102, part, Try.isAgg91, Try.isAgg3, h1, h2, Result.andThen]

theorem spotP : SpotTy Try.prog 102 where
  wide := by rw [Try.underlying102]
  eq := fun w x y n m hx hy => eqSpotP w x y n m hx hy 9998
  chk := fun w em x n => chkSpotP w em x n 9998

theorem spotOfP_any (b o n c : Nat) (w : World) (hn : 0 < n) (hn1 : n ≤ 9223372036854775807) : Calls Try.prog 46 #[.slice (some ⟨b, o, none⟩) n c] w fun e w' => e = .returned (.agg #[.pointer (some ⟨b, o, none⟩), .int .i64 n]) ∧ Below w.heap.size w w' := by
  go_enter Try.func46, Try.ntmps46
  go_wp2
  refine bodyPost_ret (v := .agg #[.pointer (some ⟨b, o, none⟩), .int .i64 n]) (by first | (simp [results, Try.results46, go_sem]; done) | (simp [results, Try.results46, go_sem]; rfl)) rfl ⟨rfl, ?_⟩
  exact (Below.refl _ _).alloc (Nat.le_refl _) _

theorem mapEqP (x : Option Nat) (V : World) (d : Nat) : (Op.equalIn (d + 1) 85 (.map x) (.map none)).run Try.prog V = .ok x.isNone V := by
  rw [Op.equalIn]
  cases x <;> simp [run_underlying Try.underlying85]
theorem mapNilP (x : Option Nat) (V : World) : (binOp BinOp.eql 85 (.map x) (.map none)).run Try.prog V = .ok (.bool x.isNone) V := by
  have h := mapEqP x V 9999
  have h' : (Op.equalIn Op.maxDepth 85 (.map x) (.map none)).run Try.prog V = .ok x.isNone V := h
  simp [binOp, Op.equal, h', Result.andThen]

set_option maxRecDepth 100000 in
set_option maxHeartbeats 2000000 in
theorem headP_new {W wr : World} {p met nu : Nat} {pv uv tv : Value} {TT : TypeId} {f : Addr → Int → Option Value} {fs : List Tg} {K : List (Nat × Obj)} (h : Sv 87 TT W wr p met nu pv uv tv f fs K) (g l : Nat) (cur : Array Value) (t : TypeId) (hg : W.heap[g]? = some (.cells cur t (0, 0))) (hgp : g ≠ p) (hf : f ⟨g, 0, none⟩ l = none) (hnu : nu ≤ 67108864) :
    Calls Try.prog 51 #[.pointer (some ⟨p, 0, none⟩), .agg #[.pointer (some ⟨g, 0, none⟩), .int .i64 l]] wr fun e w' => e = .returned (.int .i64 nu) ∧ Hid (∃ pv' uv', Sv 87 TT W w' p met (nu + 1) pv' uv' tv (updG f ⟨g, 0, none⟩ l (.int .i64 nu)) fs K) := by
  obtain ⟨W1, hW1⟩ : ∃ V, V = wr.alloc (.cells #[.pointer (some ⟨g, 0, none⟩), .int .i64 l] 102) := ⟨_, rfl⟩
  have hb1 : Below wr.heap.size wr W1 := by rw [hW1]; exact (Below.refl _ _).alloc (Nat.le_refl _) _
  have hz1 : W1.heap.size = wr.heap.size + 1 := by rw [hW1]; simp
  have hbox : W1.heap[wr.heap.size]? = some (.cells #[.pointer (some ⟨g, 0, none⟩), .int .i64 l] 102 (0, 0)) := by rw [hW1]; exact heap_alloc_new wr _
  have h1 := h.later hb1
  have hkb : ∀ x n v, updG f ⟨g, 0, none⟩ l (.int .i64 nu) x n = some v → x.block < W.heap.size ∧ x.block ≠ p := fun x n v hv => by
    unfold updG at hv
    by_cases e : x = ⟨g, 0, none⟩ ∧ n = (l : Int)
    · rw [e.1]; exact ⟨lt_row hg, hgp⟩
    · rw [if_neg e] at hv; exact h.keys x n v hv
  have HKB : Hid _ := hkb
  have HG : Hid (W.heap[g]? = some (.cells cur t (0, 0)) ∧ g ≠ p ∧ f ⟨g, 0, none⟩ l = none) := ⟨hg, hgp, hf⟩
  have hps : p < wr.heap.size := Nat.lt_of_lt_of_le h.plt h.kept.size
  have hpW : p < W.heap.size := h.plt
  have HWS : Hid (W.heap.size ≤ wr.heap.size) := h.kept.size
  have hmm := @run_makeMap Try.prog
  have hzs : ∀ V : World, (zeroValue 3).run Try.prog V = .ok (.int .i64 0) V := fun V => Try.zeroValue3 V
  obtain ⟨j0, hj, hj0, hj1, hj2⟩ := info_parts Try.infoInt3
  rcases h.map with ⟨rfl, _⟩ | ⟨M, rfl, hM, _⟩
  · have h2 := h1.mapMade
    obtain ⟨X, hX⟩ : ∃ V, V = (W1.alloc (.map #[] 0)).setCell ⟨p, 1, none⟩ (.map (some W1.heap.size)) := ⟨_, rfl⟩
    rw [← hX] at h2
    have hbx : X.heap[wr.heap.size]? = some (.cells #[.pointer (some ⟨g, 0, none⟩), .int .i64 l] 102 (0, 0)) := by
      rw [hX, heap_setCell_other _ _ _ _ (by simp; omega), Below.heap_alloc _ _ _ (by omega)]
      exact hbox
    rw [hz1] at h2 hX
    rw [hW1, World.setCell_alloc_past _ _ _ _ (by simp; omega), World.setCell_alloc_past _ _ _ _ hps] at hX
    obtain ⟨M, hM⟩ : ∃ M, wr.heap.size + 1 = M := ⟨_, rfl⟩
    have HX : Hid (X = _) := hX
    have HM : Hid (wr.heap.size + 1 = M) := hM
    rw [hM] at h2
    obtain ⟨c0, c1, c2, c4⟩ := h.cells
    have c1' : (wr.alloc (.cells #[.pointer (some ⟨g, 0, none⟩), .int .i64 l] 102)).cell? ⟨p, 1, none⟩ = some (.map none) := by rw [← hW1]; exact h1.cells.2.1
    clear hX h1 hW1 hz1 hb1 hbox hkb hg hgp hf hM c0 c2
    have HSW : Hid (Sv 87 TT W X p met nu _ uv tv f fs K) := h2
    have HBX : Hid _ := hbx
    clear h h2 hbx
    have hq : ∀ V : World, (binOp BinOp.eql 85 (.map none) (.map none)).run Try.prog V = .ok (.bool true) V := fun V => mapNilP none V
    go_enter Try.func51, Try.ntmps51
    go_wp2_with fail
    rw [← HX.out, HM.out]
    clear HX c1 c1' c4 hmm hq
    obtain ⟨c0, c1, c2, c4⟩ := HSW.out.cells
    have b0 : X.cell? ⟨wr.heap.size, 0, none⟩ = some (.pointer (some ⟨g, 0, none⟩)) := by rw [cell_of_row X _ 0 _ _ _ HBX.out]; rfl
    have b1 : X.cell? ⟨wr.heap.size, 1, none⟩ = some (.int .i64 l) := by rw [cell_of_row X _ 1 _ _ _ HBX.out]; rfl
    obtain ⟨hMW, hms⟩ : W.heap.size ≤ M ∧ SMap X M f := by
      rcases HSW.out.map with ⟨e, _⟩ | ⟨M', e, hM, hs⟩
      · cases e
      · simp only [Value.map.injEq, Option.some.injEq] at e; subst e; exact ⟨hM, hs⟩
    have hlk := look_drewNG spotP Try.underlying85 hms (x := ⟨g, 0, none⟩) (n := l) ⟨_, _, HSW.out.at HG.out.1 HG.out.2.1⟩ hzs HG.out.2.2
    clear hms
    go_cut [5, 6] (fun a b wx => a = .int .i64 0 ∧ b = .bool false ∧ Below X.heap.size X wx)
    case first =>
      go_quiet (fail)
      go_wp2_with fail
      go_meet
      case rel => exact ⟨rfl, rfl, below_drewN (Below.refl _ _) _⟩
    case rest =>
      obtain ⟨rfl, rfl, hbc⟩ := hcut
      have HSC : Hid (Sv 87 TT W wc p met nu (.map (some M)) uv tv f fs K) := HSW.out.later hbc
      have HBC : Hid _ := (hbc.block _ (lt_row HBX.out)).trans HBX.out
      obtain ⟨d0, d1, d2, d4⟩ := HSC.out.cells
      have b0' : wc.cell? ⟨wr.heap.size, 0, none⟩ = some (.pointer (some ⟨g, 0, none⟩)) := by rw [cell_of_row wc _ 0 _ _ _ HBC.out]; rfl
      have b1' : wc.cell? ⟨wr.heap.size, 1, none⟩ = some (.int .i64 l) := by rw [cell_of_row wc _ 1 _ _ _ HBC.out]; rfl
      obtain ⟨xs, hxs⟩ := HSC.out.up
      obtain ⟨ua, uc, rfl⟩ : ∃ ua uc, uv = .slice ua nu uc := by
        rcases hxs.2 with ⟨e, e0⟩ | ⟨g', c', cur', e, _⟩
        · exact ⟨none, 0, by rw [e, e0]⟩
        · exact ⟨_, _, e⟩
      clear hxs xs hlk b0 b1 c0 c1 c2 c4 HBX HSW hbc
      obtain ⟨Y, hY⟩ : ∃ Y, Y = wc := ⟨_, rfl⟩
      rw [← hY] at HSC HBC d0 d1 d2 d4 b0' b1' ⊢
      clear hY
      go_wp2_with fail
      have hn0 := After.some Y
      have q1 := After.cell d1
      have q2 := After.cell b0'
      have q3 := After.cell b1'
      refine wp_region_after_tail 6 (by kernel_rfl) (by kernel_rfl) ?_
      simp only [List.take_succ_cons, List.take_zero, List.drop_succ_cons, List.drop_zero]
      repeat (go_big_quiet_step (fail))
      refine wpQuiet_nil ?_
      rintro _ ⟨nq, rfl⟩
      have HS1 : Hid (Sv 87 TT W nq.now p met nu (.map (some M)) (.slice ua nu uc) tv f fs K) := HSC.out.later nq.bel
      have hms2 : SMap nq.now M f := by
        rcases HS1.out.map with ⟨e, _⟩ | ⟨M', e, hM, hs⟩
        · cases e
        · simp only [Value.map.injEq, Option.some.injEq] at e; subst e; exact hs
      refine wpList_store_spot _ rfl _ _ _ 85 rfl 102 3 spotP Try.underlying85 M f rfl hms2 ⟨g, 0, none⟩ l (.int .i64 nu) rfl rfl ⟨_, _, HS1.out.at HG.out.1 HG.out.2.1⟩ ?_
      intro w6 hS6 hT6
      have HS6 : Hid (Sv 87 TT W w6 p met nu (.map (some M)) (.slice ua nu uc) tv (updG f ⟨g, 0, none⟩ l (.int .i64 nu)) fs K) := HS1.out.mapStored hT6 hS6 HKB.out
      obtain ⟨xs6, hxs6⟩ := HS6.out.up
      have HROW : Hid (w6.ownsRow W.heap.size 3 1 (.slice ua nu uc) nu xs6) := hxs6
      obtain ⟨e0, e1, e2, e4⟩ := HS6.out.cells
      have hps6 : p < w6.heap.size := Nat.lt_of_lt_of_le hpW HS6.out.kept.size
      have hw6 : W.heap.size ≤ w6.heap.size := HS6.out.kept.size
      clear hms2 hS6 hT6 HS1 q1 q2 q3 hn0 d0 d1 d2 d4 b0' b1' HBC HSC hxs6
      refine wpList_nil ?_
      go_wp2_with (at_builtin; refine wpList_append_own_at _ rfl _ _ 78 rfl W.heap.size 3 j0 (.int .i64 0) 1 8 Try.underlying78 hj hj0 hj1 hj2 rfl (by decide) _ _ _ rfl (HROW.out.alloc _) ⟨w6.heap.size, 0, none⟩ 1 1 [.int .i64 nu] rfl rfl (new_oneG (.int .i64 nu) 3 rfl) (by intro u hu; simp at hu; subst hu; rfl) (by unfold maxLen; omega) (by omega) (by simp; omega) ?_; intro v' w7 hown7 hgrow7 _ hat7; obtain ⟨gu, cu, cv, rfl, hgu, hl7, hl8⟩ := row_lastG hown7; have r7 := (HS6.out.later ((Below.refl _ _).alloc (Nat.le_refl _) _)).rowUp hgrow7; have y7 : w7.frozen? ⟨p, 2, none⟩ = false := frozen_of_row w7 _ _ _ _ r7; have y8 : w7.cell? ⟨p, 2, none⟩ = some (.slice ua nu uc) := (by rw [cell_of_row w7 _ 2 _ _ _ r7]; rfl); clear r7)
      have HS7 : Hid (Sv 87 TT W (w7.setCell ⟨p, 2, none⟩ (.slice (some ⟨gu, 0, none⟩) (nu + 1) cu)) p met (nu + 1) (.map (some M)) (.slice (some ⟨gu, 0, none⟩) (nu + 1) cu) tv (updG f ⟨g, 0, none⟩ l (.int .i64 nu)) fs K) := (HS6.out.later ((Below.refl _ _).alloc (Nat.le_refl _) _)).grew hown7 hgrow7 hat7
      obtain ⟨Z, hZ⟩ : ∃ Z, Z = w7.setCell ⟨p, 2, none⟩ (.slice (some ⟨gu, 0, none⟩) (nu + 1) cu) := ⟨_, rfl⟩
      rw [← hZ] at HS7 ⊢
      have g1 : Z.cell? ⟨gu, nu, none⟩ = some (.int .i64 nu) := by
        have hzg : Z.heap[gu]? = some (.cells cv 3 (0, 0)) := by rw [hZ]; exact (heap_setCell_other _ _ _ _ (by simp; omega)).trans hl7
        rw [cell_of_row Z _ nu _ _ _ hzg]; exact hl8
      obtain ⟨f0, f1, f2, f4⟩ := HS7.out.cells
      clear hown7 hgrow7 hat7 y7 y8 hl7 hl8 hZ e0 e1 e2 e4 HS6 HROW
      go_loopw [5] (fun a wx => Hid (a = .int .i64 nu ∧ wx = Z)) (fun _ _ => 0)
      case atStart => exact ⟨rfl, rfl⟩
      case round =>
        obtain ⟨rfl, rfl⟩ := hrel.out
        go_wp2_with fail
        go_ret
        exact ⟨rfl, _, _, HS7.out⟩
  · have h2 := h1
    obtain ⟨c0, c1, c2, c4⟩ := h1.cells
    have HX : Hid (W1 = _) := hW1
    have HSW : Hid (Sv 87 TT W W1 p met nu _ uv tv f fs K) := h2
    have HBX : Hid _ := hbox
    rw [hW1] at c1
    clear h1 hz1 hb1 hbox hkb hg hgp hf h h2 c0 c2 c4 hmm hW1 hM
    have hq : ∀ V : World, (binOp BinOp.eql 85 (.map (some M)) (.map none)).run Try.prog V = .ok (.bool false) V := fun V => mapNilP (some M) V
    obtain ⟨X, hXW⟩ : ∃ X, X = W1 := ⟨_, rfl⟩
    rw [← hXW] at HX HSW HBX
    clear hXW
    go_enter Try.func51, Try.ntmps51
    go_wp2_with fail
    rw [← HX.out]
    clear HX c1 hq
    obtain ⟨c0, c1, c2, c4⟩ := HSW.out.cells
    have b0 : X.cell? ⟨wr.heap.size, 0, none⟩ = some (.pointer (some ⟨g, 0, none⟩)) := by rw [cell_of_row X _ 0 _ _ _ HBX.out]; rfl
    have b1 : X.cell? ⟨wr.heap.size, 1, none⟩ = some (.int .i64 l) := by rw [cell_of_row X _ 1 _ _ _ HBX.out]; rfl
    obtain ⟨hMW, hms⟩ : W.heap.size ≤ M ∧ SMap X M f := by
      rcases HSW.out.map with ⟨e, _⟩ | ⟨M', e, hM, hs⟩
      · cases e
      · simp only [Value.map.injEq, Option.some.injEq] at e; subst e; exact ⟨hM, hs⟩
    have hlk := look_drewNG spotP Try.underlying85 hms (x := ⟨g, 0, none⟩) (n := l) ⟨_, _, HSW.out.at HG.out.1 HG.out.2.1⟩ hzs HG.out.2.2
    clear hms
    go_cut [5, 6] (fun a b wx => a = .int .i64 0 ∧ b = .bool false ∧ Below X.heap.size X wx)
    case first =>
      go_quiet (fail)
      go_wp2_with fail
      go_meet
      case rel => exact ⟨rfl, rfl, below_drewN (Below.refl _ _) _⟩
    case rest =>
      obtain ⟨rfl, rfl, hbc⟩ := hcut
      have HSC : Hid (Sv 87 TT W wc p met nu (.map (some M)) uv tv f fs K) := HSW.out.later hbc
      have HBC : Hid _ := (hbc.block _ (lt_row HBX.out)).trans HBX.out
      obtain ⟨d0, d1, d2, d4⟩ := HSC.out.cells
      have b0' : wc.cell? ⟨wr.heap.size, 0, none⟩ = some (.pointer (some ⟨g, 0, none⟩)) := by rw [cell_of_row wc _ 0 _ _ _ HBC.out]; rfl
      have b1' : wc.cell? ⟨wr.heap.size, 1, none⟩ = some (.int .i64 l) := by rw [cell_of_row wc _ 1 _ _ _ HBC.out]; rfl
      obtain ⟨xs, hxs⟩ := HSC.out.up
      obtain ⟨ua, uc, rfl⟩ : ∃ ua uc, uv = .slice ua nu uc := by
        rcases hxs.2 with ⟨e, e0⟩ | ⟨g', c', cur', e, _⟩
        · exact ⟨none, 0, by rw [e, e0]⟩
        · exact ⟨_, _, e⟩
      clear hxs xs hlk b0 b1 c0 c1 c2 c4 HBX HSW hbc
      obtain ⟨Y, hY⟩ : ∃ Y, Y = wc := ⟨_, rfl⟩
      rw [← hY] at HSC HBC d0 d1 d2 d4 b0' b1' ⊢
      clear hY
      go_wp2_with fail
      have hn0 := After.some Y
      have q1 := After.cell d1
      have q2 := After.cell b0'
      have q3 := After.cell b1'
      refine wp_region_after_tail 6 (by kernel_rfl) (by kernel_rfl) ?_
      simp only [List.take_succ_cons, List.take_zero, List.drop_succ_cons, List.drop_zero]
      repeat (go_big_quiet_step (fail))
      refine wpQuiet_nil ?_
      rintro _ ⟨nq, rfl⟩
      have HS1 : Hid (Sv 87 TT W nq.now p met nu (.map (some M)) (.slice ua nu uc) tv f fs K) := HSC.out.later nq.bel
      have hms2 : SMap nq.now M f := by
        rcases HS1.out.map with ⟨e, _⟩ | ⟨M', e, hM, hs⟩
        · cases e
        · simp only [Value.map.injEq, Option.some.injEq] at e; subst e; exact hs
      refine wpList_store_spot _ rfl _ _ _ 85 rfl 102 3 spotP Try.underlying85 M f rfl hms2 ⟨g, 0, none⟩ l (.int .i64 nu) rfl rfl ⟨_, _, HS1.out.at HG.out.1 HG.out.2.1⟩ ?_
      intro w6 hS6 hT6
      have HS6 : Hid (Sv 87 TT W w6 p met nu (.map (some M)) (.slice ua nu uc) tv (updG f ⟨g, 0, none⟩ l (.int .i64 nu)) fs K) := HS1.out.mapStored hT6 hS6 HKB.out
      obtain ⟨xs6, hxs6⟩ := HS6.out.up
      have HROW : Hid (w6.ownsRow W.heap.size 3 1 (.slice ua nu uc) nu xs6) := hxs6
      obtain ⟨e0, e1, e2, e4⟩ := HS6.out.cells
      have hps6 : p < w6.heap.size := Nat.lt_of_lt_of_le hpW HS6.out.kept.size
      have hw6 : W.heap.size ≤ w6.heap.size := HS6.out.kept.size
      clear hms2 hS6 hT6 HS1 q1 q2 q3 hn0 d0 d1 d2 d4 b0' b1' HBC HSC hxs6
      refine wpList_nil ?_
      go_wp2_with (at_builtin; refine wpList_append_own_at _ rfl _ _ 78 rfl W.heap.size 3 j0 (.int .i64 0) 1 8 Try.underlying78 hj hj0 hj1 hj2 rfl (by decide) _ _ _ rfl (HROW.out.alloc _) ⟨w6.heap.size, 0, none⟩ 1 1 [.int .i64 nu] rfl rfl (new_oneG (.int .i64 nu) 3 rfl) (by intro u hu; simp at hu; subst hu; rfl) (by unfold maxLen; omega) (by omega) (by simp; omega) ?_; intro v' w7 hown7 hgrow7 _ hat7; obtain ⟨gu, cu, cv, rfl, hgu, hl7, hl8⟩ := row_lastG hown7; have r7 := (HS6.out.later ((Below.refl _ _).alloc (Nat.le_refl _) _)).rowUp hgrow7; have y7 : w7.frozen? ⟨p, 2, none⟩ = false := frozen_of_row w7 _ _ _ _ r7; have y8 : w7.cell? ⟨p, 2, none⟩ = some (.slice ua nu uc) := (by rw [cell_of_row w7 _ 2 _ _ _ r7]; rfl); clear r7)
      have HS7 : Hid (Sv 87 TT W (w7.setCell ⟨p, 2, none⟩ (.slice (some ⟨gu, 0, none⟩) (nu + 1) cu)) p met (nu + 1) (.map (some M)) (.slice (some ⟨gu, 0, none⟩) (nu + 1) cu) tv (updG f ⟨g, 0, none⟩ l (.int .i64 nu)) fs K) := (HS6.out.later ((Below.refl _ _).alloc (Nat.le_refl _) _)).grew hown7 hgrow7 hat7
      obtain ⟨Z, hZ⟩ : ∃ Z, Z = w7.setCell ⟨p, 2, none⟩ (.slice (some ⟨gu, 0, none⟩) (nu + 1) cu) := ⟨_, rfl⟩
      rw [← hZ] at HS7 ⊢
      have g1 : Z.cell? ⟨gu, nu, none⟩ = some (.int .i64 nu) := by
        have hzg : Z.heap[gu]? = some (.cells cv 3 (0, 0)) := by rw [hZ]; exact (heap_setCell_other _ _ _ _ (by simp; omega)).trans hl7
        rw [cell_of_row Z _ nu _ _ _ hzg]; exact hl8
      obtain ⟨f0, f1, f2, f4⟩ := HS7.out.cells
      clear hown7 hgrow7 hat7 y7 y8 hl7 hl8 hZ e0 e1 e2 e4 HS6 HROW
      go_loopw [5] (fun a wx => Hid (a = .int .i64 nu ∧ wx = Z)) (fun _ _ => 0)
      case atStart => exact ⟨rfl, rfl⟩
      case round =>
        obtain ⟨rfl, rfl⟩ := hrel.out
        go_wp2_with fail
        go_ret
        exact ⟨rfl, _, _, HS7.out⟩

set_option maxRecDepth 100000 in
set_option maxHeartbeats 2000000 in
theorem joinP_new {W wr : World} {p met nu : Nat} {pv uv tv : Value} {TT : TypeId} {f : Addr → Int → Option Value} {fs : List Tg} {K : List (Nat × Obj)} (h : Sv 87 TT W wr p met nu pv uv tv f fs K) (g l g' l' : Nat) (cur cur' : Array Value) (t t' : TypeId) (hg : W.heap[g]? = some (.cells cur t (0, 0))) (hg' : W.heap[g']? = some (.cells cur' t' (0, 0))) (hgp : g ≠ p) (hgp' : g' ≠ p) (hgg : g ≠ g') (hf : ∀ n, f ⟨g, 0, none⟩ n = none) (hf' : ∀ n, f ⟨g', 0, none⟩ n = none) (hm : met ≤ 16777216) (hnu : nu ≤ 2 * met) :
    Calls Try.prog 45 #[.pointer (some ⟨p, 0, none⟩), .agg #[.pointer (some ⟨g, 0, none⟩), .int .i64 l], .agg #[.pointer (some ⟨g', 0, none⟩), .int .i64 l']] wr fun e w' => e = .returned (.bool false) ∧ Hid (∃ nu' pv' uv' f', Sv 87 TT W w' p (met + 1) nu' pv' uv' tv f' fs K ∧ nu' ≤ 2 * (met + 1) ∧ ∀ x n v, f' x n = some v → f x n = some v ∨ x.block = g ∨ x.block = g') := by
  obtain ⟨V1, hV1⟩ : ∃ V, V = wr.alloc (.cells #[.pointer (some ⟨g, 0, none⟩), .int .i64 l] 102) := ⟨_, rfl⟩
  have hs1 := h.keep _ hV1 (.cells #[.pointer (some ⟨g, 0, none⟩), .int .i64 l] 102 (0, 0)) (by rw [hV1]; exact heap_alloc_new wr _)
  have hz1 : V1.heap.size = wr.heap.size + 1 := by rw [hV1]; simp
  obtain ⟨V2, hV2⟩ : ∃ V, V = V1.alloc (.cells #[.pointer (some ⟨g', 0, none⟩), .int .i64 l'] 102) := ⟨_, rfl⟩
  have hs2 := hs1.keep _ hV2 (.cells #[.pointer (some ⟨g', 0, none⟩), .int .i64 l'] 102 (0, 0)) (by rw [hV2]; exact heap_alloc_new V1 _)
  rw [hz1] at hs2
  have hs3 := hs2.meet
  obtain ⟨X, hX⟩ : ∃ X, X = V2.setCell ⟨p, 0, none⟩ (.int .i64 ((met : Int) + 1)) := ⟨_, rfl⟩
  rw [← hX] at hs3
  have hps : p < wr.heap.size := Nat.lt_of_lt_of_le h.plt h.kept.size
  have hpW : p < W.heap.size := h.plt
  have hzW : W.heap.size ≤ wr.heap.size := h.kept.size
  rw [hV2, hV1, World.setCell_alloc_past _ _ _ _ (by simp; omega), World.setCell_alloc_past _ _ _ _ hps] at hX
  obtain ⟨c0, c1, c2, c4⟩ := h.cells
  have HX : Hid (X = _) := hX
  have HS : Hid (Sv 87 TT W X p (met + 1) nu pv uv tv f fs ((wr.heap.size + 1, .cells #[.pointer (some ⟨g', 0, none⟩), .int .i64 l'] 102 (0, 0)) :: (wr.heap.size, .cells #[.pointer (some ⟨g, 0, none⟩), .int .i64 l] 102 (0, 0)) :: K)) := hs3
  clear hs1 hs2 hs3 hV1 hV2 hz1 hX c1 c2 h
  by_cases h3 : met + 1 ≤ 300
  · have h3' : (met : Int) + 1 ≤ 300 := by omega
    go_enter Try.func45, Try.ntmps45
    go_wp2_with fail
    rw [← HX.out]
    go_ret
    exact ⟨rfl, nu, pv, uv, f, HS.out.drop (fun q hq => List.mem_cons_of_mem _ (List.mem_cons_of_mem _ hq)), by omega, fun x n v hv => .inl hv⟩
  · have h3' : decide ((met : Int) + 1 ≤ 300) = false := by simp; omega
    have HH1 : Hid (∀ V : World, Below X.heap.size X V → _) := fun V hV => headP_new (HS.out.later hV) g l cur t hg hgp (hf _) (by omega)
    have HH2 : Hid (∀ (V : World) (pv1 uv1 : Value), Sv 87 TT W V p (met + 1) (nu + 1) pv1 uv1 tv (updG f ⟨g, 0, none⟩ l (.int .i64 nu)) fs _ → _) := fun V pv1 uv1 hV => headP_new (K := ((wr.heap.size + 1, .cells #[.pointer (some ⟨g', 0, none⟩), .int .i64 l'] 102 (0, 0)) :: (wr.heap.size, .cells #[.pointer (some ⟨g, 0, none⟩), .int .i64 l] 102 (0, 0)) :: K)) hV g' l' cur' t' hg' hgp' (by unfold updG; rw [if_neg]; exact hf' _; intro e; have := congrArg Addr.block e.1; exact hgg this.symm) (by omega)
    have HF2 : Hid (∀ x n v, updG (updG f ⟨g, 0, none⟩ l (.int .i64 nu)) ⟨g', 0, none⟩ l' (.int .i64 (nu + 1 : Nat)) x n = some v → f x n = some v ∨ x.block = g ∨ x.block = g') := fun x n v hv => by
      unfold updG at hv
      by_cases e : x = ⟨g', 0, none⟩ ∧ n = (l' : Int)
      · exact .inr (.inr (by rw [e.1]))
      · rw [if_neg e] at hv
        by_cases e2 : x = ⟨g, 0, none⟩ ∧ n = (l : Int)
        · exact .inr (.inl (by rw [e2.1]))
        · rw [if_neg e2] at hv; exact .inl hv
    have e1 := (HS.out.ext _ (List.mem_cons_self ..)).1
    have e2 := (HS.out.ext _ (List.mem_cons_of_mem _ (List.mem_cons_self ..))).1
    have a0 : X.cell? ⟨wr.heap.size, 0, none⟩ = some (.pointer (some ⟨g, 0, none⟩)) := by rw [cell_of_row X _ 0 _ _ _ e2]; rfl
    have a1 : X.cell? ⟨wr.heap.size, 1, none⟩ = some (.int .i64 l) := by rw [cell_of_row X _ 1 _ _ _ e2]; rfl
    have b0 : X.cell? ⟨wr.heap.size + 1, 0, none⟩ = some (.pointer (some ⟨g', 0, none⟩)) := by rw [cell_of_row X _ 0 _ _ _ e1]; rfl
    have b1 : X.cell? ⟨wr.heap.size + 1, 1, none⟩ = some (.int .i64 l') := by rw [cell_of_row X _ 1 _ _ _ e1]; rfl
    clear e1 e2 hg hg' hf hf'
    go_enter Try.func45, Try.ntmps45
    go_wp2_with fail
    rw [← HX.out]
    clear HX c0 c4 h3 h3'
    go_cut [7, 8] (fun a b wx => a = .int .i64 nu ∧ b = .int .i64 (nu + 1 : Nat) ∧ Hid (∃ pv' uv', Sv 87 TT W wx p (met + 1) (nu + 1 + 1) pv' uv' tv (updG (updG f ⟨g, 0, none⟩ l (.int .i64 nu)) ⟨g', 0, none⟩ l' (.int .i64 (nu + 1 : Nat))) fs K))
    case first =>
      go_region_with (first
        | (go_at_call 51; (with_reducible refine (HH1.out _ ?_).mono ?_); exact (Below.refl _ _).drew; rintro e w1 ⟨rfl, HQ1⟩; obtain ⟨pv1, uv1, hS1⟩ := HQ1.out; have r1 := (hS1.ext _ (List.mem_cons_self ..)).1; have q0 : w1.cell? ⟨wr.heap.size + 1, 0, none⟩ = some (.pointer (some ⟨g', 0, none⟩)) := (by rw [cell_of_row w1 _ 0 _ _ _ r1]; rfl); have q1 : w1.cell? ⟨wr.heap.size + 1, 1, none⟩ = some (.int .i64 l') := (by rw [cell_of_row w1 _ 1 _ _ _ r1]; rfl))
        | (go_at_call 51; (with_reducible refine (HH2.out _ _ _ hS1).mono ?_); rintro e w2 ⟨rfl, HQ2⟩))
      all_goals
        obtain ⟨pv2, uv2, hS2⟩ := HQ2.out
        have HS2 : Hid _ := hS2.drop (K' := K) (fun q hq => List.mem_cons_of_mem _ (List.mem_cons_of_mem _ hq))
        go_wp2_with fail
        go_meet
        case rel => exact ⟨rfl, rfl, pv2, uv2, HS2.out⟩
    case rest =>
      obtain ⟨rfl, rfl, HQ⟩ := hcut
      obtain ⟨pv2, uv2, hS2⟩ := HQ.out
      obtain ⟨xs, hxs⟩ := hS2.up
      obtain ⟨gu, cu, cv, rfl, hgu, hcv, hle⟩ : ∃ gu cu cv, uv2 = .slice (some ⟨gu, 0, none⟩) (nu + 1 + 1) cu ∧ W.heap.size ≤ gu ∧ wc.heap[gu]? = some (.cells cv 3 (0, 0)) ∧ nu + 1 + 1 ≤ cv.size := by
        rcases hxs.2 with ⟨_, e⟩ | ⟨g1, c1, cur1, e1, e2, e3, e4, e5, e6, e7⟩
        · omega
        · exact ⟨g1, c1, cur1, e1, e2, e3, by omega⟩
      obtain ⟨f0, f1, f2, f4⟩ := hS2.cells
      have y1 : wc.frozen? ⟨gu, nu, none⟩ = false := frozen_of_row wc _ _ _ _ hcv
      obtain ⟨ov, hov⟩ : ∃ ov, cv[nu]? = some ov := ⟨_, Array.getElem?_eq_getElem (by omega)⟩
      have y2 : wc.cell? ⟨gu, nu, none⟩ = some ov := by rw [cell_of_row wc _ nu _ _ _ hcv]; exact hov
      have HS3 : Hid _ := hS2.numSet (g := gu) (c := cu) (i := nu) rfl (by omega) ((nu + 1 : Nat) : Int)
      have hne : ((nu : Int) == ((nu + 1 : Nat) : Int)) = false := by simp; omega
      have hi : (nu : Int) < ((nu + 1 + 1 : Nat) : Int) := by omega
      clear hxs hS2 HQ hcv hov a0 a1 b0 b1
      go_wp2_with fail
      go_ret
      have hne2 : ((nu : Int) == (nu : Int) + 1) = false := by rw [beq_eq_false_iff_ne]; omega
      exact ⟨(by show Ending.returned (Value.bool ((nu : Int) == (nu : Int) + 1)) = _; rw [hne2]), _, _, _, _, HS3.out, by omega, HF2.out⟩


end Go.Proofs.Ytahmbnokjfkfiaa
