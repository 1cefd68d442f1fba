/- The program's SameExpr: two lists of clauses held against each other. -/
import Derived.Test.YtpokheklplcamaaSa12M
import Derived.Deep.RegionWith
import Derived.BigRegion
import Derived.Test.YtpokheklplcamaaQTailM
namespace Go.Proofs.Ytpokheklplcamaa
open Go.RowKit
set_option linter.unusedVariables false

set_option maxRecDepth 100000 in
set_option maxHeartbeats 4000000 in
theorem listsC (d : Nat) (W w : World) (p : Nat) (xs ys : List (Ex d × Ex d)) (ga gb ca cb : Nat) (cu cv : Array Value) (fps gps : List (List Nat)) (hga : W.heap[ga]? = some (.cells cu 33 (0, 0))) (hgb : W.heap[gb]? = some (.cells cv 33 (0, 0))) (hap : ga ≠ p) (hbp : gb ≠ p) (hl : ys.length = xs.length) (hl1 : xs.length ≤ 1048576) (hz1 : szRow (ClF (szX d)) xs ≤ 1048576) (hz2 : szRow (ClF (szX d)) ys ≤ 1048576)
    (hx : ∀ (i : Nat) (x : Ex d × Ex d), xs[i]? = some x → ∃ vs f, fps[i]? = some f ∧ vs.length = 10 ∧ (∀ (j : Nat) (u : Value), vs[j]? = some u → cu[i * 10 + j]? = some u) ∧ ClO (ExO d) W vs x f)
    (hy : ∀ (i : Nat) (x : Ex d × Ex d), ys[i]? = some x → ∃ vs f, gps[i]? = some f ∧ vs.length = 10 ∧ (∀ (j : Nat) (u : Value), vs[j]? = some u → cv[i * 10 + j]? = some u) ∧ ClO (ExO d) W vs x f)
    (R : Nat) (Q : Prop) (K : List (Nat × Obj)) (h : LsAt (ClF (wkS d)) W p xs ys fps gps R Q K 0 w) :
    Calls Try.prog 54 #[.pointer (some ⟨p, 0, none⟩), .agg #[.slice none 0 0, .slice none 0 0, .slice (some ⟨ga, 0, none⟩) xs.length ca, .slice (some ⟨gb, 0, none⟩) xs.length cb]] w fun e w' => ∃ r : Bool, e = .returned (.bool r) ∧ Hid ((r = true ∧ LsAt (ClF (wkS d)) W p xs ys fps gps R Q K xs.length w') ∨ (r = false ∧ ¬ xs = ys ∧ Kept p (p + 1) W w')) := by
  obtain ⟨met, nu, pv, uv, tv, f, fs, R0, Q0, hS, hLg, hR, hQ⟩ := h
  obtain ⟨V1, hV1⟩ : ∃ V, V = w.alloc (.cells #[.slice none 0 0, .slice none 0 0, .slice (some ⟨ga, 0, none⟩) xs.length ca, .slice (some ⟨gb, 0, none⟩) xs.length cb] 96) := ⟨_, rfl⟩
  have hs1 := hS.keep _ hV1 (.cells #[.slice none 0 0, .slice none 0 0, .slice (some ⟨ga, 0, none⟩) xs.length ca, .slice (some ⟨gb, 0, none⟩) xs.length cb] 96 (0, 0)) (by rw [hV1]; exact heap_alloc_new w _)
  obtain ⟨B, hB⟩ : ∃ B : Obj, B = (.cells #[.slice none 0 0, .slice none 0 0, .slice (some ⟨ga, 0, none⟩) xs.length ca, .slice (some ⟨gb, 0, none⟩) xs.length cb] 96 (0, 0)) := ⟨_, rfl⟩
  have HBX : Hid (B = _) := hB
  rw [← hB] at hs1
  have HST : Hid (LsAt (ClF (wkS d)) W p xs ys fps gps R Q ((w.heap.size, B) :: K) 0 V1) := ⟨_, _, _, _, _, _, _, _, _, hs1, hLg, hR, hQ⟩
  have HX : Hid _ := hx
  have HY : Hid _ := hy
  have HG : Hid (W.heap[ga]? = some (.cells cu 33 (0, 0)) ∧ W.heap[gb]? = some (.cells cv 33 (0, 0)) ∧ ga ≠ p ∧ gb ≠ p) := ⟨hga, hgb, hap, hbp⟩
  have HZ : Hid (szRow (ClF (szX d)) xs ≤ 1048576 ∧ szRow (ClF (szX d)) ys ≤ 1048576) := ⟨hz1, hz2⟩
  have HV : Hid (V1 = _) := hV1
  obtain ⟨len, hlen⟩ : ∃ l, xs.length = l := ⟨_, rfl⟩
  have HLX : Hid (xs.length = len ∧ ys.length = len) := ⟨hlen, by omega⟩
  rw [hlen] at HBX HV hl1 ⊢
  clear hS hLg hR hQ hV1 hB hs1 hx hy hga hgb hap hbp hz1 hz2 hl hlen
  go_enter Try.func54, Try.ntmps54
  go_wp2_with fail
  rw [← HV.out]
  clear HV
  have HST0 : Hid (V1.cell? ⟨w.heap.size, 2, none⟩ = some (.slice (some ⟨ga, 0, none⟩) len ca)) := by
    obtain ⟨met, nu, pv, uv, tv, f, fs, R', Q', hS, _⟩ := HST.out
    have hbx := (hS.ext _ (List.mem_cons_self ..)).1
    rw [HBX.out] at hbx
    show _ = _
    rw [cell_of_row V1 _ 2 _ _ _ hbx]; rfl
  go_loopw [12] (fun i wx => Hid (i = .int .i64 0 ∧ wx = V1)) (fun _ _ => 0)
  case atStart => exact ⟨rfl, rfl⟩
  case round =>
    obtain ⟨rfl, rfl⟩ := hrel.out
    have b2 := HST0.out
    clear HST0 hrel
    go_wp2_with fail
    clear b2
    go_loopw [30] (fun i wx => ∃ j : Nat, j ≤ len ∧ i = .int .i64 j ∧ Hid (LsAt (ClF (wkS d)) W p xs ys fps gps R Q ((w.heap.size, B) :: K) j wx)) (fun i _ => len - (intOf i).toNat)
    case atStart => exact ⟨0, Nat.zero_le _, rfl, HST⟩
    case round =>
      clear HST
      obtain ⟨j, hj, rfl, HJ⟩ := hrel
      obtain ⟨met, nu, pv, uv, tv, f, fs, R', Q', hS, hLg, hR, hQ⟩ := HJ.out
      have hbx := (hS.ext _ (List.mem_cons_self ..)).1
      rw [HBX.out] at hbx
      rename World => wr
      have b2 : wr.cell? ⟨w.heap.size, 2, none⟩ = some (.slice (some ⟨ga, 0, none⟩) len ca) := by rw [cell_of_row wr _ 2 _ _ _ hbx]; rfl
      have b3 : wr.cell? ⟨w.heap.size, 3, none⟩ = some (.slice (some ⟨gb, 0, none⟩) len cb) := by rw [cell_of_row wr _ 3 _ _ _ hbx]; rfl
      clear hbx
      by_cases hjl : j < len
      · obtain ⟨⟨x1, x2⟩, hx⟩ : ∃ t, xs[j]? = some t := ⟨_, List.getElem?_eq_getElem (by rw [HLX.out.1]; exact hjl)⟩
        obtain ⟨⟨y1, y2⟩, hy⟩ : ∃ t, ys[j]? = some t := ⟨_, List.getElem?_eq_getElem (by rw [HLX.out.2]; exact hjl)⟩
        obtain ⟨vs, fx, e1, e2, e3, vp, vq, fx1, fx2, rfl, rfl, e4, e4'⟩ := HX.out j _ hx
        obtain ⟨us, fy, e5, e6, e7, up, uq, fy1, fy2, rfl, rfl, e8, e8'⟩ := HY.out j _ hy
        have lp : vp.length = 5 := by obtain ⟨_, _, _, _, _, _, _, _, _, rfl⟩ := ExO.shape d _ _ _ _ e4; rfl
        have lq : up.length = 5 := by obtain ⟨_, _, _, _, _, _, _, _, _, rfl⟩ := ExO.shape d _ _ _ _ e8; rfl
        have hzx : szX d x1 + szX d x2 ≤ 1048576 := Nat.le_trans (szRow_mem (f := ClF (szX d)) hx) HZ.out.1
        have hzy : szX d y1 + szX d y2 ≤ 1048576 := Nat.le_trans (szRow_mem (f := ClF (szX d)) hy) HZ.out.2
        have hwx : ClF (wkS d) (x1, x2) = wkS d x1 + wkS d x2 := rfl
        obtain ⟨EXT, hEXT⟩ : ∃ l, (fps.drop (j + 1)).flatten ++ (gps.drop (j + 1)).flatten = l := ⟨_, rfl⟩
        obtain ⟨ER, hER⟩ : ∃ l, ((xs.drop (j + 1)).map (ClF (wkS d))).sum = l := ⟨_, rfl⟩
        have hL2 := hLg.less (ext' := fx1 ++ fy1 ++ (fx2 ++ fy2 ++ EXT)) (E' := wkS d x1 + (wkS d x2 + ER)) (by rw [drop_sum hx, hwx, ← hER]; omega) (fun g => by rw [drop_flat e1, drop_flat e5, ← hEXT]; simp only [List.count_append]; omega)
        rw [drop_sum hx, hwx, hER] at hR
        have HAL1 : Hid (∀ V : World, Below wr.heap.size wr V → _) := fun V hV => alike_any d W V p vp up x1 y1 fx1 fy1 _ e4 e8 (by omega) (by omega) ga (j * 10) gb (j * 10) ⟨_, _, HG.out.1, fun i u hu => e3 i u (by rw [List.getElem?_append_left (List.getElem?_eq_some_iff.1 hu).1]; exact hu)⟩ ⟨_, _, HG.out.2.1, fun i u hu => e7 i u (by rw [List.getElem?_append_left (List.getElem?_eq_some_iff.1 hu).1]; exact hu)⟩ HG.out.2.2.1 HG.out.2.2.2 _ R' Q' met nu pv uv tv f fs _ (hS.later hV) hL2
        have HF1 : Hid (∀ V0 V : World, Below wr.heap.size wr V0 → AlPost W p (fx2 ++ fy2 ++ EXT) (wkS d x2 + ER) R' Q' ((w.heap.size, B) :: K) (wkS d x1) (x1 = y1) V0 V false → ¬ xs = ys ∧ Kept p (p + 1) W V) := fun V0 V hV0 hA => by
          rcases hA with ⟨q, _⟩ | ⟨_, r2, r3⟩
          · cases q
          · exact ⟨unlike_at hx hy (fun e => r2 (congrArg Prod.fst e)), ((hS.later hV0).later r3).kept⟩
        have HAL2 : Hid (∀ V0 V : World, AlPost W p (fx2 ++ fy2 ++ EXT) (wkS d x2 + ER) R' Q' ((w.heap.size, B) :: K) (wkS d x1) (x1 = y1) V0 V true → Calls Try.prog 53 #[.pointer (some ⟨p, 0, none⟩), .pointer (some ⟨ga, j * 10 + 5, none⟩), .pointer (some ⟨gb, j * 10 + 5, none⟩)] V fun e w' => ∃ r : Bool, e = .returned (.bool r) ∧ Hid ((r = true ∧ LsAt (ClF (wkS d)) W p xs ys fps gps R Q ((w.heap.size, B) :: K) (j + 1) w') ∨ (r = false ∧ ¬ xs = ys ∧ Kept p (p + 1) W w'))) := fun V0 V hA => by
          rcases hA with ⟨_, met', nu', pv', uv', tv', f', fs', R2, Q2, s1, s2, s3, s4⟩ | ⟨q, _⟩
          · refine (alike_any d W V p vq uq x2 y2 fx2 fy2 _ e4' e8' (by omega) (by omega) ga (j * 10 + 5) gb (j * 10 + 5) ⟨_, _, HG.out.1, fun i u hu => by have := e3 (5 + i) u (by rw [List.getElem?_append_right (by omega), lp, Nat.add_sub_cancel_left]; exact hu); rw [← Nat.add_assoc] at this; exact this⟩ ⟨_, _, HG.out.2.1, fun i u hu => by have := e7 (5 + i) u (by rw [List.getElem?_append_right (by omega), lq, Nat.add_sub_cancel_left]; exact hu); rw [← Nat.add_assoc] at this; exact this⟩ HG.out.2.2.1 HG.out.2.2.2 _ R2 Q2 met' nu' pv' uv' tv' f' fs' _ s1 s2).mono ?_
            rintro e w' ⟨r, rfl, _, HP⟩
            refine ⟨r, rfl, ?_⟩
            rcases HP.out with ⟨r1, met3, nu3, pv3, uv3, tv3, f3, fs3, R3, Q3, t1, t2, t3, t4⟩ | ⟨r1, r2, r3⟩
            · refine .inl ⟨r1, met3, nu3, pv3, uv3, tv3, f3, fs3, R3, Q3, t1, by rw [hEXT, hER]; exact t2, by rw [hER]; omega, ?_⟩
              rw [t4, s4, hQ]
              constructor
              · rintro ⟨q1, q2, q3, q4⟩; exact ⟨take_same hx hy q3 (by rw [q1, q2]), q4⟩
              · rintro ⟨q1, q4⟩
                have q5 : (x1, x2) = (y1, y2) := by
                  have := congrArg (fun l => l[j]?) q1
                  simp only [List.getElem?_take_of_lt (Nat.lt_succ_self j)] at this
                  rw [hx, hy] at this
                  exact Option.some.inj this
                refine ⟨congrArg Prod.snd q5, congrArg Prod.fst q5, ?_, q4⟩
                have := congrArg (List.take j) q1
                rwa [List.take_take, List.take_take, Nat.min_eq_left (by omega)] at this
            · exact .inr ⟨r1, unlike_at hx hy (fun e => r2 (congrArg Prod.snd e)), (s1.later r3).kept⟩
          · cases q
        have hjl' : (j : Int) < (len : Int) := by omega
        clear e1 e2 e3 e4 e5 e6 e7 e8 e4' e8' hL2 hS hLg hR hQ hx hy HJ lp lq hzx hzy hwx
        go_wp2_with fail
        go_cut [7, 8] (fun a b wx => a = .pointer (some ⟨ga, j * 10, none⟩) ∧ b = .pointer (some ⟨gb, j * 10, none⟩) ∧ Below wr.heap.size wr wx)
        case first =>
          go_quiet (fail)
          go_wp2_with fail
          go_meet
          case rel => exact ⟨rfl, rfl, below_drewN (Below.refl _ _) _⟩
        case rest =>
          obtain ⟨rfl, rfl, hbc⟩ := hcut
          have HBC : Hid (Below wr.heap.size wr wc) := hbc
          clear hbc b2 b3
          go_wp2_with fail
          go_cut [60] (fun v wx => ∃ r : Bool, v = .bool (!r) ∧ Hid ((r = true ∧ LsAt (ClF (wkS d)) W p xs ys fps gps R Q ((w.heap.size, B) :: K) (j + 1) wx) ∨ (r = false ∧ ¬ xs = ys ∧ Kept p (p + 1) W wx)))
          case first =>
            refine wp_region_any (by kernel_rfl) ?_
            change wpAny _ _ _ _ _ _ _ (World.drew _)
            generalize hA0 : (Act.mk _ _) = A0
            have z0 : A0.tmps.size = 62 := by rw [← hA0]; rfl
            have e0_0 : A0.eval (.tmp 0) = (.pointer (some ⟨p, 0, none⟩)) := by rw [← hA0]; rfl
            have e7_0 : A0.eval (.tmp 7) = (.pointer (some ⟨ga, j * 10, none⟩)) := by rw [← hA0]; rfl
            have e8_0 : A0.eval (.tmp 8) = (.pointer (some ⟨gb, j * 10, none⟩)) := by rw [← hA0]; rfl
            refine wpAny_take (i := 0) (v := (.pointer (some ⟨p, 0, none⟩))) rfl (by kernel_rfl) (by kernel_rfl) (by kernel_rfl) (fun _ _ _ h => h) (Or.inl ⟨rfl, fun w => ?_⟩) ?_
            · rw [BigFrame.run_move (.tmp 0) rfl w, e0_0]
            change wpAny _ _ _ _ _ _ (Act.put A0 (some 41) ((.pointer (some ⟨p, 0, none⟩)))) _
            generalize hA1 : Act.put A0 (some 41) ((.pointer (some ⟨p, 0, none⟩))) = A1
            have z1 : A1.tmps.size = 62 := by rw [← hA1, put_size]; exact z0
            have e0_1 : A1.eval (.tmp 0) = (.pointer (some ⟨p, 0, none⟩)) := by rw [← hA1, put_ne (by decide)]; exact e0_0
            have e7_1 : A1.eval (.tmp 7) = (.pointer (some ⟨ga, j * 10, none⟩)) := by rw [← hA1, put_ne (by decide)]; exact e7_0
            have e8_1 : A1.eval (.tmp 8) = (.pointer (some ⟨gb, j * 10, none⟩)) := by rw [← hA1, put_ne (by decide)]; exact e8_0
            have e41_1 : A1.eval (.tmp 41) = (.pointer (some ⟨p, 0, none⟩)) := by rw [← hA1]; exact put_same (by rw [z0]; decide)
            clear e0_0 e7_0 e8_0 z0
            refine wpAny_take (i := 1) (v := (.pointer (some ⟨ga, j * 10, none⟩))) rfl (by kernel_rfl) (by kernel_rfl) (by kernel_rfl) (fun _ _ _ h => h) (Or.inl ⟨rfl, fun w => ?_⟩) ?_
            · rw [BigFrame.run_move (.tmp 7) rfl w, e7_1]
            change wpAny _ _ _ _ _ _ (Act.put A1 (some 42) ((.pointer (some ⟨ga, j * 10, none⟩)))) _
            generalize hA2 : Act.put A1 (some 42) ((.pointer (some ⟨ga, j * 10, none⟩))) = A2
            have z2 : A2.tmps.size = 62 := by rw [← hA2, put_size]; exact z1
            have e0_2 : A2.eval (.tmp 0) = (.pointer (some ⟨p, 0, none⟩)) := by rw [← hA2, put_ne (by decide)]; exact e0_1
            have e7_2 : A2.eval (.tmp 7) = (.pointer (some ⟨ga, j * 10, none⟩)) := by rw [← hA2, put_ne (by decide)]; exact e7_1
            have e8_2 : A2.eval (.tmp 8) = (.pointer (some ⟨gb, j * 10, none⟩)) := by rw [← hA2, put_ne (by decide)]; exact e8_1
            have e41_2 : A2.eval (.tmp 41) = (.pointer (some ⟨p, 0, none⟩)) := by rw [← hA2, put_ne (by decide)]; exact e41_1
            have e42_2 : A2.eval (.tmp 42) = (.pointer (some ⟨ga, j * 10, none⟩)) := by rw [← hA2]; exact put_same (by rw [z1]; decide)
            clear e0_1 e7_1 e8_1 e41_1 z1
            refine wpAny_take (i := 2) (v := (.pointer (some ⟨ga, j * 10, none⟩))) rfl (by kernel_rfl) (by kernel_rfl) (by kernel_rfl) (fun _ _ _ h => h) (Or.inl ⟨rfl, fun w => ?_⟩) ?_
            · exact run_nilCheck rfl e42_2 w
            change wpAny _ _ _ _ _ _ (Act.put A2 (some 43) ((.pointer (some ⟨ga, j * 10, none⟩)))) _
            generalize hA3 : Act.put A2 (some 43) ((.pointer (some ⟨ga, j * 10, none⟩))) = A3
            have z3 : A3.tmps.size = 62 := by rw [← hA3, put_size]; exact z2
            have e0_3 : A3.eval (.tmp 0) = (.pointer (some ⟨p, 0, none⟩)) := by rw [← hA3, put_ne (by decide)]; exact e0_2
            have e7_3 : A3.eval (.tmp 7) = (.pointer (some ⟨ga, j * 10, none⟩)) := by rw [← hA3, put_ne (by decide)]; exact e7_2
            have e8_3 : A3.eval (.tmp 8) = (.pointer (some ⟨gb, j * 10, none⟩)) := by rw [← hA3, put_ne (by decide)]; exact e8_2
            have e41_3 : A3.eval (.tmp 41) = (.pointer (some ⟨p, 0, none⟩)) := by rw [← hA3, put_ne (by decide)]; exact e41_2
            have e42_3 : A3.eval (.tmp 42) = (.pointer (some ⟨ga, j * 10, none⟩)) := by rw [← hA3, put_ne (by decide)]; exact e42_2
            have e43_3 : A3.eval (.tmp 43) = (.pointer (some ⟨ga, j * 10, none⟩)) := by rw [← hA3]; exact put_same (by rw [z2]; decide)
            clear e0_2 e7_2 e8_2 e41_2 e42_2 z2
            refine wpAny_take (i := 3) (v := (.pointer (some ⟨ga, j * 10, none⟩))) rfl (by kernel_rfl) (by kernel_rfl) (by kernel_rfl) (fun _ _ _ h => h) (Or.inl ⟨rfl, fun w => ?_⟩) ?_
            · exact run_fieldAddr (Try.fieldP _ _) rfl e43_3 w
            change wpAny _ _ _ _ _ _ (Act.put A3 (some 44) ((.pointer (some ⟨ga, j * 10, none⟩)))) _
            generalize hA4 : Act.put A3 (some 44) ((.pointer (some ⟨ga, j * 10, none⟩))) = A4
            have z4 : A4.tmps.size = 62 := by rw [← hA4, put_size]; exact z3
            have e0_4 : A4.eval (.tmp 0) = (.pointer (some ⟨p, 0, none⟩)) := by rw [← hA4, put_ne (by decide)]; exact e0_3
            have e7_4 : A4.eval (.tmp 7) = (.pointer (some ⟨ga, j * 10, none⟩)) := by rw [← hA4, put_ne (by decide)]; exact e7_3
            have e8_4 : A4.eval (.tmp 8) = (.pointer (some ⟨gb, j * 10, none⟩)) := by rw [← hA4, put_ne (by decide)]; exact e8_3
            have e41_4 : A4.eval (.tmp 41) = (.pointer (some ⟨p, 0, none⟩)) := by rw [← hA4, put_ne (by decide)]; exact e41_3
            have e42_4 : A4.eval (.tmp 42) = (.pointer (some ⟨ga, j * 10, none⟩)) := by rw [← hA4, put_ne (by decide)]; exact e42_3
            have e43_4 : A4.eval (.tmp 43) = (.pointer (some ⟨ga, j * 10, none⟩)) := by rw [← hA4, put_ne (by decide)]; exact e43_3
            have e44_4 : A4.eval (.tmp 44) = (.pointer (some ⟨ga, j * 10, none⟩)) := by rw [← hA4]; exact put_same (by rw [z3]; decide)
            clear e0_3 e7_3 e8_3 e41_3 e42_3 e43_3 z3
            refine wpAny_take (i := 4) (v := (.pointer (some ⟨gb, j * 10, none⟩))) rfl (by kernel_rfl) (by kernel_rfl) (by kernel_rfl) (fun _ _ _ h => h) (Or.inl ⟨rfl, fun w => ?_⟩) ?_
            · rw [BigFrame.run_move (.tmp 8) rfl w, e8_4]
            change wpAny _ _ _ _ _ _ (Act.put A4 (some 45) ((.pointer (some ⟨gb, j * 10, none⟩)))) _
            generalize hA5 : Act.put A4 (some 45) ((.pointer (some ⟨gb, j * 10, none⟩))) = A5
            have z5 : A5.tmps.size = 62 := by rw [← hA5, put_size]; exact z4
            have e0_5 : A5.eval (.tmp 0) = (.pointer (some ⟨p, 0, none⟩)) := by rw [← hA5, put_ne (by decide)]; exact e0_4
            have e7_5 : A5.eval (.tmp 7) = (.pointer (some ⟨ga, j * 10, none⟩)) := by rw [← hA5, put_ne (by decide)]; exact e7_4
            have e8_5 : A5.eval (.tmp 8) = (.pointer (some ⟨gb, j * 10, none⟩)) := by rw [← hA5, put_ne (by decide)]; exact e8_4
            have e41_5 : A5.eval (.tmp 41) = (.pointer (some ⟨p, 0, none⟩)) := by rw [← hA5, put_ne (by decide)]; exact e41_4
            have e42_5 : A5.eval (.tmp 42) = (.pointer (some ⟨ga, j * 10, none⟩)) := by rw [← hA5, put_ne (by decide)]; exact e42_4
            have e43_5 : A5.eval (.tmp 43) = (.pointer (some ⟨ga, j * 10, none⟩)) := by rw [← hA5, put_ne (by decide)]; exact e43_4
            have e44_5 : A5.eval (.tmp 44) = (.pointer (some ⟨ga, j * 10, none⟩)) := by rw [← hA5, put_ne (by decide)]; exact e44_4
            have e45_5 : A5.eval (.tmp 45) = (.pointer (some ⟨gb, j * 10, none⟩)) := by rw [← hA5]; exact put_same (by rw [z4]; decide)
            clear e0_4 e7_4 e8_4 e41_4 e42_4 e43_4 e44_4 z4
            refine wpAny_take (i := 5) (v := (.pointer (some ⟨gb, j * 10, none⟩))) rfl (by kernel_rfl) (by kernel_rfl) (by kernel_rfl) (fun _ _ _ h => h) (Or.inl ⟨rfl, fun w => ?_⟩) ?_
            · exact run_nilCheck rfl e45_5 w
            change wpAny _ _ _ _ _ _ (Act.put A5 (some 46) ((.pointer (some ⟨gb, j * 10, none⟩)))) _
            generalize hA6 : Act.put A5 (some 46) ((.pointer (some ⟨gb, j * 10, none⟩))) = A6
            have z6 : A6.tmps.size = 62 := by rw [← hA6, put_size]; exact z5
            have e0_6 : A6.eval (.tmp 0) = (.pointer (some ⟨p, 0, none⟩)) := by rw [← hA6, put_ne (by decide)]; exact e0_5
            have e7_6 : A6.eval (.tmp 7) = (.pointer (some ⟨ga, j * 10, none⟩)) := by rw [← hA6, put_ne (by decide)]; exact e7_5
            have e8_6 : A6.eval (.tmp 8) = (.pointer (some ⟨gb, j * 10, none⟩)) := by rw [← hA6, put_ne (by decide)]; exact e8_5
            have e41_6 : A6.eval (.tmp 41) = (.pointer (some ⟨p, 0, none⟩)) := by rw [← hA6, put_ne (by decide)]; exact e41_5
            have e42_6 : A6.eval (.tmp 42) = (.pointer (some ⟨ga, j * 10, none⟩)) := by rw [← hA6, put_ne (by decide)]; exact e42_5
            have e43_6 : A6.eval (.tmp 43) = (.pointer (some ⟨ga, j * 10, none⟩)) := by rw [← hA6, put_ne (by decide)]; exact e43_5
            have e44_6 : A6.eval (.tmp 44) = (.pointer (some ⟨ga, j * 10, none⟩)) := by rw [← hA6, put_ne (by decide)]; exact e44_5
            have e45_6 : A6.eval (.tmp 45) = (.pointer (some ⟨gb, j * 10, none⟩)) := by rw [← hA6, put_ne (by decide)]; exact e45_5
            have e46_6 : A6.eval (.tmp 46) = (.pointer (some ⟨gb, j * 10, none⟩)) := by rw [← hA6]; exact put_same (by rw [z5]; decide)
            clear e0_5 e7_5 e8_5 e41_5 e42_5 e43_5 e44_5 e45_5 z5
            refine wpAny_take (i := 6) (v := (.pointer (some ⟨gb, j * 10, none⟩))) rfl (by kernel_rfl) (by kernel_rfl) (by kernel_rfl) (fun _ _ _ h => h) (Or.inl ⟨rfl, fun w => ?_⟩) ?_
            · exact run_fieldAddr (Try.fieldP _ _) rfl e46_6 w
            change wpAny _ _ _ _ _ _ (Act.put A6 (some 47) ((.pointer (some ⟨gb, j * 10, none⟩)))) _
            generalize hA7 : Act.put A6 (some 47) ((.pointer (some ⟨gb, j * 10, none⟩))) = A7
            have z7 : A7.tmps.size = 62 := by rw [← hA7, put_size]; exact z6
            have e0_7 : A7.eval (.tmp 0) = (.pointer (some ⟨p, 0, none⟩)) := by rw [← hA7, put_ne (by decide)]; exact e0_6
            have e7_7 : A7.eval (.tmp 7) = (.pointer (some ⟨ga, j * 10, none⟩)) := by rw [← hA7, put_ne (by decide)]; exact e7_6
            have e8_7 : A7.eval (.tmp 8) = (.pointer (some ⟨gb, j * 10, none⟩)) := by rw [← hA7, put_ne (by decide)]; exact e8_6
            have e41_7 : A7.eval (.tmp 41) = (.pointer (some ⟨p, 0, none⟩)) := by rw [← hA7, put_ne (by decide)]; exact e41_6
            have e42_7 : A7.eval (.tmp 42) = (.pointer (some ⟨ga, j * 10, none⟩)) := by rw [← hA7, put_ne (by decide)]; exact e42_6
            have e43_7 : A7.eval (.tmp 43) = (.pointer (some ⟨ga, j * 10, none⟩)) := by rw [← hA7, put_ne (by decide)]; exact e43_6
            have e44_7 : A7.eval (.tmp 44) = (.pointer (some ⟨ga, j * 10, none⟩)) := by rw [← hA7, put_ne (by decide)]; exact e44_6
            have e45_7 : A7.eval (.tmp 45) = (.pointer (some ⟨gb, j * 10, none⟩)) := by rw [← hA7, put_ne (by decide)]; exact e45_6
            have e46_7 : A7.eval (.tmp 46) = (.pointer (some ⟨gb, j * 10, none⟩)) := by rw [← hA7, put_ne (by decide)]; exact e46_6
            have e47_7 : A7.eval (.tmp 47) = (.pointer (some ⟨gb, j * 10, none⟩)) := by rw [← hA7]; exact put_same (by rw [z6]; decide)
            clear e0_6 e7_6 e8_6 e41_6 e42_6 e43_6 e44_6 e45_6 e46_6 z6
            refine wpAny_ready (rs := [7]) (by kernel_rfl) (by simp) ?_
            refine AllReady.cons rfl (fun K hK => ?_) AllReady.nil
            refine step_call rfl Try.enterAlike rfl #[(.pointer (some ⟨p, 0, none⟩)), (.pointer (some ⟨ga, j * 10, none⟩)), (.pointer (some ⟨gb, j * 10, none⟩))] (by simp only [List.map_toArray, List.map_cons, List.map_nil]; rw [e41_7, e44_7, e47_7]) ?_
            refine (HAL1.out _ (HBC.out.trans ((Below.refl _ _).drew.mono HBC.out.size))).mono ?_
            rintro e V1 ⟨r1, rfl, _, HP1⟩
            refine ⟨_, rfl, hK _ _ ?_⟩
            clear hK K
            change wpAny _ _ _ _ _ _ (Act.put A7 (some 48) (.bool r1)) _
            generalize hA8 : Act.put A7 (some 48) (.bool r1) = A8
            have z8 : A8.tmps.size = 62 := by rw [← hA8, put_size]; exact z7
            have e0_8 : A8.eval (.tmp 0) = (.pointer (some ⟨p, 0, none⟩)) := by rw [← hA8, put_ne (by decide)]; exact e0_7
            have e7_8 : A8.eval (.tmp 7) = (.pointer (some ⟨ga, j * 10, none⟩)) := by rw [← hA8, put_ne (by decide)]; exact e7_7
            have e8_8 : A8.eval (.tmp 8) = (.pointer (some ⟨gb, j * 10, none⟩)) := by rw [← hA8, put_ne (by decide)]; exact e8_7
            have e48_8 : A8.eval (.tmp 48) = .bool r1 := by rw [← hA8]; exact put_same (by rw [z7]; decide)
            clear e0_7 e7_7 e8_7 e41_7 e42_7 e43_7 e44_7 e45_7 e46_7 e47_7 z7
            refine wpAny_take (i := 8) (v := .bool (!r1)) rfl (by kernel_rfl) (by kernel_rfl) (by kernel_rfl) (fun _ _ _ h => h) (Or.inl ⟨rfl, fun w => ?_⟩) ?_
            · exact run_not rfl e48_8 w
            change wpAny _ _ _ _ _ _ (Act.put A8 (some 49) (.bool (!r1))) _
            generalize hA9 : Act.put A8 (some 49) (.bool (!r1)) = A9
            have z9 : A9.tmps.size = 62 := by rw [← hA9, put_size]; exact z8
            have e0_9 : A9.eval (.tmp 0) = (.pointer (some ⟨p, 0, none⟩)) := by rw [← hA9, put_ne (by decide)]; exact e0_8
            have e7_9 : A9.eval (.tmp 7) = (.pointer (some ⟨ga, j * 10, none⟩)) := by rw [← hA9, put_ne (by decide)]; exact e7_8
            have e8_9 : A9.eval (.tmp 8) = (.pointer (some ⟨gb, j * 10, none⟩)) := by rw [← hA9, put_ne (by decide)]; exact e8_8
            have e49_9 : A9.eval (.tmp 49) = .bool (!r1) := by rw [← hA9]; exact put_same (by rw [z8]; decide)
            clear e0_8 e7_8 e8_8 e48_8 z8
            refine wpAny_take (i := 9) (v := .bool (!r1)) rfl (by kernel_rfl) (by kernel_rfl) (by kernel_rfl) (fun _ _ _ h => h) (Or.inl ⟨rfl, fun w => ?_⟩) ?_
            · rw [BigFrame.run_move (.tmp 49) rfl w, e49_9]
            change wpAny _ _ _ _ _ _ (Act.put A9 (some 50) (.bool (!r1))) _
            generalize hA10 : Act.put A9 (some 50) (.bool (!r1)) = A10
            have z10 : A10.tmps.size = 62 := by rw [← hA10, put_size]; exact z9
            have e0_10 : A10.eval (.tmp 0) = (.pointer (some ⟨p, 0, none⟩)) := by rw [← hA10, put_ne (by decide)]; exact e0_9
            have e7_10 : A10.eval (.tmp 7) = (.pointer (some ⟨ga, j * 10, none⟩)) := by rw [← hA10, put_ne (by decide)]; exact e7_9
            have e8_10 : A10.eval (.tmp 8) = (.pointer (some ⟨gb, j * 10, none⟩)) := by rw [← hA10, put_ne (by decide)]; exact e8_9
            have e50_10 : A10.eval (.tmp 50) = .bool (!r1) := by rw [← hA10]; exact put_same (by rw [z9]; decide)
            clear e0_9 e7_9 e8_9 e49_9 z9
            cases r1 with
            | false =>
              refine wpAny_take (i := 10) (v := undef) rfl (by kernel_rfl) (by kernel_rfl) (by kernel_rfl) (fun _ _ _ h => h) (Or.inr ⟨(by rw [wanted_of (t := 50) rfl rfl (by rw [z10]; decide) e50_10]; rfl), rfl⟩) ?_
              change wpAny _ _ _ _ _ _ (Act.put A10 (some 51) (undef)) _
              generalize hA11 : Act.put A10 (some 51) (undef) = A11
              have z11 : A11.tmps.size = 62 := by rw [← hA11, put_size]; exact z10
              have e0_11 : A11.eval (.tmp 0) = (.pointer (some ⟨p, 0, none⟩)) := by rw [← hA11, put_ne (by decide)]; exact e0_10
              have e7_11 : A11.eval (.tmp 7) = (.pointer (some ⟨ga, j * 10, none⟩)) := by rw [← hA11, put_ne (by decide)]; exact e7_10
              have e8_11 : A11.eval (.tmp 8) = (.pointer (some ⟨gb, j * 10, none⟩)) := by rw [← hA11, put_ne (by decide)]; exact e8_10
              have e50_11 : A11.eval (.tmp 50) = .bool (!false) := by rw [← hA11, put_ne (by decide)]; exact e50_10
              have e51_11 : A11.eval (.tmp 51) = undef := by rw [← hA11]; exact put_same (by rw [z10]; decide)
              clear e0_10 e7_10 e8_10 e50_10 z10
              refine wpAny_take (i := 11) (v := undef) rfl (by kernel_rfl) (by kernel_rfl) (by kernel_rfl) (fun _ _ _ h => h) (Or.inr ⟨(by rw [wanted_of (t := 50) rfl rfl (by rw [z11]; decide) e50_11]; rfl), rfl⟩) ?_
              change wpAny _ _ _ _ _ _ (Act.put A11 (some 52) (undef)) _
              generalize hA12 : Act.put A11 (some 52) (undef) = A12
              have z12 : A12.tmps.size = 62 := by rw [← hA12, put_size]; exact z11
              have e0_12 : A12.eval (.tmp 0) = (.pointer (some ⟨p, 0, none⟩)) := by rw [← hA12, put_ne (by decide)]; exact e0_11
              have e7_12 : A12.eval (.tmp 7) = (.pointer (some ⟨ga, j * 10, none⟩)) := by rw [← hA12, put_ne (by decide)]; exact e7_11
              have e8_12 : A12.eval (.tmp 8) = (.pointer (some ⟨gb, j * 10, none⟩)) := by rw [← hA12, put_ne (by decide)]; exact e8_11
              have e50_12 : A12.eval (.tmp 50) = .bool (!false) := by rw [← hA12, put_ne (by decide)]; exact e50_11
              have e51_12 : A12.eval (.tmp 51) = undef := by rw [← hA12, put_ne (by decide)]; exact e51_11
              have e52_12 : A12.eval (.tmp 52) = undef := by rw [← hA12]; exact put_same (by rw [z11]; decide)
              clear e0_11 e7_11 e8_11 e50_11 e51_11 z11
              refine wpAny_take (i := 12) (v := undef) rfl (by kernel_rfl) (by kernel_rfl) (by kernel_rfl) (fun _ _ _ h => h) (Or.inr ⟨(by rw [wanted_of (t := 50) rfl rfl (by rw [z12]; decide) e50_12]; rfl), rfl⟩) ?_
              change wpAny _ _ _ _ _ _ (Act.put A12 (some 53) (undef)) _
              generalize hA13 : Act.put A12 (some 53) (undef) = A13
              have z13 : A13.tmps.size = 62 := by rw [← hA13, put_size]; exact z12
              have e0_13 : A13.eval (.tmp 0) = (.pointer (some ⟨p, 0, none⟩)) := by rw [← hA13, put_ne (by decide)]; exact e0_12
              have e7_13 : A13.eval (.tmp 7) = (.pointer (some ⟨ga, j * 10, none⟩)) := by rw [← hA13, put_ne (by decide)]; exact e7_12
              have e8_13 : A13.eval (.tmp 8) = (.pointer (some ⟨gb, j * 10, none⟩)) := by rw [← hA13, put_ne (by decide)]; exact e8_12
              have e50_13 : A13.eval (.tmp 50) = .bool (!false) := by rw [← hA13, put_ne (by decide)]; exact e50_12
              have e51_13 : A13.eval (.tmp 51) = undef := by rw [← hA13, put_ne (by decide)]; exact e51_12
              have e52_13 : A13.eval (.tmp 52) = undef := by rw [← hA13, put_ne (by decide)]; exact e52_12
              have e53_13 : A13.eval (.tmp 53) = undef := by rw [← hA13]; exact put_same (by rw [z12]; decide)
              clear e0_12 e7_12 e8_12 e50_12 e51_12 e52_12 z12
              refine wpAny_take (i := 13) (v := undef) rfl (by kernel_rfl) (by kernel_rfl) (by kernel_rfl) (fun _ _ _ h => h) (Or.inr ⟨(by rw [wanted_of (t := 50) rfl rfl (by rw [z13]; decide) e50_13]; rfl), rfl⟩) ?_
              change wpAny _ _ _ _ _ _ (Act.put A13 (some 54) (undef)) _
              generalize hA14 : Act.put A13 (some 54) (undef) = A14
              have z14 : A14.tmps.size = 62 := by rw [← hA14, put_size]; exact z13
              have e0_14 : A14.eval (.tmp 0) = (.pointer (some ⟨p, 0, none⟩)) := by rw [← hA14, put_ne (by decide)]; exact e0_13
              have e7_14 : A14.eval (.tmp 7) = (.pointer (some ⟨ga, j * 10, none⟩)) := by rw [← hA14, put_ne (by decide)]; exact e7_13
              have e8_14 : A14.eval (.tmp 8) = (.pointer (some ⟨gb, j * 10, none⟩)) := by rw [← hA14, put_ne (by decide)]; exact e8_13
              have e50_14 : A14.eval (.tmp 50) = .bool (!false) := by rw [← hA14, put_ne (by decide)]; exact e50_13
              have e51_14 : A14.eval (.tmp 51) = undef := by rw [← hA14, put_ne (by decide)]; exact e51_13
              have e52_14 : A14.eval (.tmp 52) = undef := by rw [← hA14, put_ne (by decide)]; exact e52_13
              have e53_14 : A14.eval (.tmp 53) = undef := by rw [← hA14, put_ne (by decide)]; exact e53_13
              have e54_14 : A14.eval (.tmp 54) = undef := by rw [← hA14]; exact put_same (by rw [z13]; decide)
              clear e0_13 e7_13 e8_13 e50_13 e51_13 e52_13 e53_13 z13
              refine wpAny_take (i := 14) (v := undef) rfl (by kernel_rfl) (by kernel_rfl) (by kernel_rfl) (fun _ _ _ h => h) (Or.inr ⟨(by rw [wanted_of (t := 50) rfl rfl (by rw [z14]; decide) e50_14]; rfl), rfl⟩) ?_
              change wpAny _ _ _ _ _ _ (Act.put A14 (some 55) (undef)) _
              generalize hA15 : Act.put A14 (some 55) (undef) = A15
              have z15 : A15.tmps.size = 62 := by rw [← hA15, put_size]; exact z14
              have e0_15 : A15.eval (.tmp 0) = (.pointer (some ⟨p, 0, none⟩)) := by rw [← hA15, put_ne (by decide)]; exact e0_14
              have e7_15 : A15.eval (.tmp 7) = (.pointer (some ⟨ga, j * 10, none⟩)) := by rw [← hA15, put_ne (by decide)]; exact e7_14
              have e8_15 : A15.eval (.tmp 8) = (.pointer (some ⟨gb, j * 10, none⟩)) := by rw [← hA15, put_ne (by decide)]; exact e8_14
              have e50_15 : A15.eval (.tmp 50) = .bool (!false) := by rw [← hA15, put_ne (by decide)]; exact e50_14
              have e51_15 : A15.eval (.tmp 51) = undef := by rw [← hA15, put_ne (by decide)]; exact e51_14
              have e52_15 : A15.eval (.tmp 52) = undef := by rw [← hA15, put_ne (by decide)]; exact e52_14
              have e53_15 : A15.eval (.tmp 53) = undef := by rw [← hA15, put_ne (by decide)]; exact e53_14
              have e54_15 : A15.eval (.tmp 54) = undef := by rw [← hA15, put_ne (by decide)]; exact e54_14
              have e55_15 : A15.eval (.tmp 55) = undef := by rw [← hA15]; exact put_same (by rw [z14]; decide)
              clear e0_14 e7_14 e8_14 e50_14 e51_14 e52_14 e53_14 e54_14 z14
              refine wpAny_take (i := 15) (v := undef) rfl (by kernel_rfl) (by kernel_rfl) (by kernel_rfl) (fun _ _ _ h => h) (Or.inr ⟨(by rw [wanted_of (t := 50) rfl rfl (by rw [z15]; decide) e50_15]; rfl), rfl⟩) ?_
              change wpAny _ _ _ _ _ _ (Act.put A15 (some 56) (undef)) _
              generalize hA16 : Act.put A15 (some 56) (undef) = A16
              have z16 : A16.tmps.size = 62 := by rw [← hA16, put_size]; exact z15
              have e0_16 : A16.eval (.tmp 0) = (.pointer (some ⟨p, 0, none⟩)) := by rw [← hA16, put_ne (by decide)]; exact e0_15
              have e7_16 : A16.eval (.tmp 7) = (.pointer (some ⟨ga, j * 10, none⟩)) := by rw [← hA16, put_ne (by decide)]; exact e7_15
              have e8_16 : A16.eval (.tmp 8) = (.pointer (some ⟨gb, j * 10, none⟩)) := by rw [← hA16, put_ne (by decide)]; exact e8_15
              have e50_16 : A16.eval (.tmp 50) = .bool (!false) := by rw [← hA16, put_ne (by decide)]; exact e50_15
              have e51_16 : A16.eval (.tmp 51) = undef := by rw [← hA16, put_ne (by decide)]; exact e51_15
              have e52_16 : A16.eval (.tmp 52) = undef := by rw [← hA16, put_ne (by decide)]; exact e52_15
              have e53_16 : A16.eval (.tmp 53) = undef := by rw [← hA16, put_ne (by decide)]; exact e53_15
              have e54_16 : A16.eval (.tmp 54) = undef := by rw [← hA16, put_ne (by decide)]; exact e54_15
              have e55_16 : A16.eval (.tmp 55) = undef := by rw [← hA16, put_ne (by decide)]; exact e55_15
              have e56_16 : A16.eval (.tmp 56) = undef := by rw [← hA16]; exact put_same (by rw [z15]; decide)
              clear e0_15 e7_15 e8_15 e50_15 e51_15 e52_15 e53_15 e54_15 e55_15 z15
              refine wpAny_take (i := 16) (v := undef) rfl (by kernel_rfl) (by kernel_rfl) (by kernel_rfl) (fun _ _ _ h => h) (Or.inr ⟨(by rw [wanted_of (t := 50) rfl rfl (by rw [z16]; decide) e50_16]; rfl), rfl⟩) ?_
              change wpAny _ _ _ _ _ _ (Act.put A16 (some 57) (undef)) _
              generalize hA17 : Act.put A16 (some 57) (undef) = A17
              have z17 : A17.tmps.size = 62 := by rw [← hA17, put_size]; exact z16
              have e0_17 : A17.eval (.tmp 0) = (.pointer (some ⟨p, 0, none⟩)) := by rw [← hA17, put_ne (by decide)]; exact e0_16
              have e7_17 : A17.eval (.tmp 7) = (.pointer (some ⟨ga, j * 10, none⟩)) := by rw [← hA17, put_ne (by decide)]; exact e7_16
              have e8_17 : A17.eval (.tmp 8) = (.pointer (some ⟨gb, j * 10, none⟩)) := by rw [← hA17, put_ne (by decide)]; exact e8_16
              have e50_17 : A17.eval (.tmp 50) = .bool (!false) := by rw [← hA17, put_ne (by decide)]; exact e50_16
              have e51_17 : A17.eval (.tmp 51) = undef := by rw [← hA17, put_ne (by decide)]; exact e51_16
              have e52_17 : A17.eval (.tmp 52) = undef := by rw [← hA17, put_ne (by decide)]; exact e52_16
              have e53_17 : A17.eval (.tmp 53) = undef := by rw [← hA17, put_ne (by decide)]; exact e53_16
              have e54_17 : A17.eval (.tmp 54) = undef := by rw [← hA17, put_ne (by decide)]; exact e54_16
              have e55_17 : A17.eval (.tmp 55) = undef := by rw [← hA17, put_ne (by decide)]; exact e55_16
              have e56_17 : A17.eval (.tmp 56) = undef := by rw [← hA17, put_ne (by decide)]; exact e56_16
              have e57_17 : A17.eval (.tmp 57) = undef := by rw [← hA17]; exact put_same (by rw [z16]; decide)
              clear e0_16 e7_16 e8_16 e50_16 e51_16 e52_16 e53_16 e54_16 e55_16 e56_16 z16
              refine wpAny_ready (rs := [17]) (by kernel_rfl) (by simp) ?_
              refine BigFrame.allReady_skip rfl (by rw [wanted_of (t := 50) rfl rfl (by rw [z17]; decide) e50_17]; rfl) ?_ AllReady.nil
              change wpAny _ _ _ _ _ _ (Act.put A17 (some 58) (undef)) _
              generalize hA18 : Act.put A17 (some 58) (undef) = A18
              have z18 : A18.tmps.size = 62 := by rw [← hA18, put_size]; exact z17
              have e0_18 : A18.eval (.tmp 0) = (.pointer (some ⟨p, 0, none⟩)) := by rw [← hA18, put_ne (by decide)]; exact e0_17
              have e7_18 : A18.eval (.tmp 7) = (.pointer (some ⟨ga, j * 10, none⟩)) := by rw [← hA18, put_ne (by decide)]; exact e7_17
              have e8_18 : A18.eval (.tmp 8) = (.pointer (some ⟨gb, j * 10, none⟩)) := by rw [← hA18, put_ne (by decide)]; exact e8_17
              have e50_18 : A18.eval (.tmp 50) = .bool (!false) := by rw [← hA18, put_ne (by decide)]; exact e50_17
              have e51_18 : A18.eval (.tmp 51) = undef := by rw [← hA18, put_ne (by decide)]; exact e51_17
              have e52_18 : A18.eval (.tmp 52) = undef := by rw [← hA18, put_ne (by decide)]; exact e52_17
              have e53_18 : A18.eval (.tmp 53) = undef := by rw [← hA18, put_ne (by decide)]; exact e53_17
              have e54_18 : A18.eval (.tmp 54) = undef := by rw [← hA18, put_ne (by decide)]; exact e54_17
              have e55_18 : A18.eval (.tmp 55) = undef := by rw [← hA18, put_ne (by decide)]; exact e55_17
              have e56_18 : A18.eval (.tmp 56) = undef := by rw [← hA18, put_ne (by decide)]; exact e56_17
              have e57_18 : A18.eval (.tmp 57) = undef := by rw [← hA18, put_ne (by decide)]; exact e57_17
              have e58_18 : A18.eval (.tmp 58) = undef := by rw [← hA18]; exact put_same (by rw [z17]; decide)
              clear e0_17 e7_17 e8_17 e50_17 e51_17 e52_17 e53_17 e54_17 e55_17 e56_17 e57_17 z17
              refine wpAny_take (i := 18) (v := undef) rfl (by kernel_rfl) (by kernel_rfl) (by kernel_rfl) (fun _ _ _ h => h) (Or.inr ⟨(by rw [wanted_of (t := 50) rfl rfl (by rw [z18]; decide) e50_18]; rfl), rfl⟩) ?_
              change wpAny _ _ _ _ _ _ (Act.put A18 (some 59) (undef)) _
              generalize hA19 : Act.put A18 (some 59) (undef) = A19
              have z19 : A19.tmps.size = 62 := by rw [← hA19, put_size]; exact z18
              have e0_19 : A19.eval (.tmp 0) = (.pointer (some ⟨p, 0, none⟩)) := by rw [← hA19, put_ne (by decide)]; exact e0_18
              have e7_19 : A19.eval (.tmp 7) = (.pointer (some ⟨ga, j * 10, none⟩)) := by rw [← hA19, put_ne (by decide)]; exact e7_18
              have e8_19 : A19.eval (.tmp 8) = (.pointer (some ⟨gb, j * 10, none⟩)) := by rw [← hA19, put_ne (by decide)]; exact e8_18
              have e50_19 : A19.eval (.tmp 50) = .bool (!false) := by rw [← hA19, put_ne (by decide)]; exact e50_18
              have e51_19 : A19.eval (.tmp 51) = undef := by rw [← hA19, put_ne (by decide)]; exact e51_18
              have e52_19 : A19.eval (.tmp 52) = undef := by rw [← hA19, put_ne (by decide)]; exact e52_18
              have e53_19 : A19.eval (.tmp 53) = undef := by rw [← hA19, put_ne (by decide)]; exact e53_18
              have e54_19 : A19.eval (.tmp 54) = undef := by rw [← hA19, put_ne (by decide)]; exact e54_18
              have e55_19 : A19.eval (.tmp 55) = undef := by rw [← hA19, put_ne (by decide)]; exact e55_18
              have e56_19 : A19.eval (.tmp 56) = undef := by rw [← hA19, put_ne (by decide)]; exact e56_18
              have e57_19 : A19.eval (.tmp 57) = undef := by rw [← hA19, put_ne (by decide)]; exact e57_18
              have e58_19 : A19.eval (.tmp 58) = undef := by rw [← hA19, put_ne (by decide)]; exact e58_18
              have e59_19 : A19.eval (.tmp 59) = undef := by rw [← hA19]; exact put_same (by rw [z18]; decide)
              clear e0_18 e7_18 e8_18 e50_18 e51_18 e52_18 e53_18 e54_18 e55_18 e56_18 e57_18 e58_18 z18
              refine wpAny_take (i := 19) (v := .bool true) rfl (by kernel_rfl) (by kernel_rfl) (by kernel_rfl) (fun _ _ _ h => h) (Or.inl ⟨rfl, fun w => ?_⟩) ?_
              · exact run_pick (c := .tmp 50) (x := .const (.bool true)) (y := .tmp 59) (b := true) rfl e50_19 rfl w
              change wpAny _ _ _ _ _ _ (Act.put A19 (some 60) (.bool true)) _
              generalize hA20 : Act.put A19 (some 60) (.bool true) = A20
              have z20 : A20.tmps.size = 62 := by rw [← hA20, put_size]; exact z19
              have e0_20 : A20.eval (.tmp 0) = (.pointer (some ⟨p, 0, none⟩)) := by rw [← hA20, put_ne (by decide)]; exact e0_19
              have e7_20 : A20.eval (.tmp 7) = (.pointer (some ⟨ga, j * 10, none⟩)) := by rw [← hA20, put_ne (by decide)]; exact e7_19
              have e8_20 : A20.eval (.tmp 8) = (.pointer (some ⟨gb, j * 10, none⟩)) := by rw [← hA20, put_ne (by decide)]; exact e8_19
              have e50_20 : A20.eval (.tmp 50) = .bool (!false) := by rw [← hA20, put_ne (by decide)]; exact e50_19
              have e51_20 : A20.eval (.tmp 51) = undef := by rw [← hA20, put_ne (by decide)]; exact e51_19
              have e52_20 : A20.eval (.tmp 52) = undef := by rw [← hA20, put_ne (by decide)]; exact e52_19
              have e53_20 : A20.eval (.tmp 53) = undef := by rw [← hA20, put_ne (by decide)]; exact e53_19
              have e54_20 : A20.eval (.tmp 54) = undef := by rw [← hA20, put_ne (by decide)]; exact e54_19
              have e55_20 : A20.eval (.tmp 55) = undef := by rw [← hA20, put_ne (by decide)]; exact e55_19
              have e56_20 : A20.eval (.tmp 56) = undef := by rw [← hA20, put_ne (by decide)]; exact e56_19
              have e57_20 : A20.eval (.tmp 57) = undef := by rw [← hA20, put_ne (by decide)]; exact e57_19
              have e58_20 : A20.eval (.tmp 58) = undef := by rw [← hA20, put_ne (by decide)]; exact e58_19
              have e59_20 : A20.eval (.tmp 59) = undef := by rw [← hA20, put_ne (by decide)]; exact e59_19
              have e60_20 : A20.eval (.tmp 60) = .bool true := by rw [← hA20]; exact put_same (by rw [z19]; decide)
              clear e0_19 e7_19 e8_19 e50_19 e51_19 e52_19 e53_19 e54_19 e55_19 e56_19 e57_19 e58_19 e59_19 z19
              refine wpAny_done (by kernel_rfl) ?_ _
              subst hA20 hA19 hA18 hA17 hA16 hA15 hA14 hA13 hA12 hA11 hA10 hA9 hA8 hA7 hA6 hA5 hA4 hA3 hA2 hA1 hA0
              simp only [Act.put, List.setIfInBounds_toArray, List.set_cons_zero, List.set_cons_succ]
              go_wp2_with fail
              go_meet
              case rel => exact ⟨false, rfl, .inr ⟨rfl, HF1.out _ _ (HBC.out.trans ((Below.refl _ _).drew.mono HBC.out.size)) HP1.out⟩⟩

            | true =>
              refine wpAny_take (i := 10) (v := (.pointer (some ⟨p, 0, none⟩))) rfl (by kernel_rfl) (by kernel_rfl) (by kernel_rfl) (fun _ _ _ h => h) (Or.inl ⟨(by rw [wanted_of (t := 50) rfl rfl (by rw [z10]; decide) e50_10]; rfl), fun w => ?_⟩) ?_
              · rw [BigFrame.run_move (.tmp 0) rfl w, e0_10]
              change wpAny _ _ _ _ _ _ (Act.put A10 (some 51) ((.pointer (some ⟨p, 0, none⟩)))) _
              generalize hA11 : Act.put A10 (some 51) ((.pointer (some ⟨p, 0, none⟩))) = A11
              have z11 : A11.tmps.size = 62 := by rw [← hA11, put_size]; exact z10
              have e0_11 : A11.eval (.tmp 0) = (.pointer (some ⟨p, 0, none⟩)) := by rw [← hA11, put_ne (by decide)]; exact e0_10
              have e7_11 : A11.eval (.tmp 7) = (.pointer (some ⟨ga, j * 10, none⟩)) := by rw [← hA11, put_ne (by decide)]; exact e7_10
              have e8_11 : A11.eval (.tmp 8) = (.pointer (some ⟨gb, j * 10, none⟩)) := by rw [← hA11, put_ne (by decide)]; exact e8_10
              have e50_11 : A11.eval (.tmp 50) = .bool (!true) := by rw [← hA11, put_ne (by decide)]; exact e50_10
              have e51_11 : A11.eval (.tmp 51) = (.pointer (some ⟨p, 0, none⟩)) := by rw [← hA11]; exact put_same (by rw [z10]; decide)
              clear e0_10 e7_10 e8_10 e50_10 z10
              refine wpAny_take (i := 11) (v := (.pointer (some ⟨ga, j * 10, none⟩))) rfl (by kernel_rfl) (by kernel_rfl) (by kernel_rfl) (fun _ _ _ h => h) (Or.inl ⟨(by rw [wanted_of (t := 50) rfl rfl (by rw [z11]; decide) e50_11]; rfl), fun w => ?_⟩) ?_
              · rw [BigFrame.run_move (.tmp 7) rfl w, e7_11]
              change wpAny _ _ _ _ _ _ (Act.put A11 (some 52) ((.pointer (some ⟨ga, j * 10, none⟩)))) _
              generalize hA12 : Act.put A11 (some 52) ((.pointer (some ⟨ga, j * 10, none⟩))) = A12
              have z12 : A12.tmps.size = 62 := by rw [← hA12, put_size]; exact z11
              have e0_12 : A12.eval (.tmp 0) = (.pointer (some ⟨p, 0, none⟩)) := by rw [← hA12, put_ne (by decide)]; exact e0_11
              have e7_12 : A12.eval (.tmp 7) = (.pointer (some ⟨ga, j * 10, none⟩)) := by rw [← hA12, put_ne (by decide)]; exact e7_11
              have e8_12 : A12.eval (.tmp 8) = (.pointer (some ⟨gb, j * 10, none⟩)) := by rw [← hA12, put_ne (by decide)]; exact e8_11
              have e50_12 : A12.eval (.tmp 50) = .bool (!true) := by rw [← hA12, put_ne (by decide)]; exact e50_11
              have e51_12 : A12.eval (.tmp 51) = (.pointer (some ⟨p, 0, none⟩)) := by rw [← hA12, put_ne (by decide)]; exact e51_11
              have e52_12 : A12.eval (.tmp 52) = (.pointer (some ⟨ga, j * 10, none⟩)) := by rw [← hA12]; exact put_same (by rw [z11]; decide)
              clear e0_11 e7_11 e8_11 e50_11 e51_11 z11
              refine wpAny_take (i := 12) (v := (.pointer (some ⟨ga, j * 10, none⟩))) rfl (by kernel_rfl) (by kernel_rfl) (by kernel_rfl) (fun _ _ _ h => h) (Or.inl ⟨(by rw [wanted_of (t := 50) rfl rfl (by rw [z12]; decide) e50_12]; rfl), fun w => ?_⟩) ?_
              · exact run_nilCheck rfl e52_12 w
              change wpAny _ _ _ _ _ _ (Act.put A12 (some 53) ((.pointer (some ⟨ga, j * 10, none⟩)))) _
              generalize hA13 : Act.put A12 (some 53) ((.pointer (some ⟨ga, j * 10, none⟩))) = A13
              have z13 : A13.tmps.size = 62 := by rw [← hA13, put_size]; exact z12
              have e0_13 : A13.eval (.tmp 0) = (.pointer (some ⟨p, 0, none⟩)) := by rw [← hA13, put_ne (by decide)]; exact e0_12
              have e7_13 : A13.eval (.tmp 7) = (.pointer (some ⟨ga, j * 10, none⟩)) := by rw [← hA13, put_ne (by decide)]; exact e7_12
              have e8_13 : A13.eval (.tmp 8) = (.pointer (some ⟨gb, j * 10, none⟩)) := by rw [← hA13, put_ne (by decide)]; exact e8_12
              have e50_13 : A13.eval (.tmp 50) = .bool (!true) := by rw [← hA13, put_ne (by decide)]; exact e50_12
              have e51_13 : A13.eval (.tmp 51) = (.pointer (some ⟨p, 0, none⟩)) := by rw [← hA13, put_ne (by decide)]; exact e51_12
              have e52_13 : A13.eval (.tmp 52) = (.pointer (some ⟨ga, j * 10, none⟩)) := by rw [← hA13, put_ne (by decide)]; exact e52_12
              have e53_13 : A13.eval (.tmp 53) = (.pointer (some ⟨ga, j * 10, none⟩)) := by rw [← hA13]; exact put_same (by rw [z12]; decide)
              clear e0_12 e7_12 e8_12 e50_12 e51_12 e52_12 z12
              refine wpAny_take (i := 13) (v := (.pointer (some ⟨ga, j * 10 + 5, none⟩))) rfl (by kernel_rfl) (by kernel_rfl) (by kernel_rfl) (fun _ _ _ h => h) (Or.inl ⟨(by rw [wanted_of (t := 50) rfl rfl (by rw [z13]; decide) e50_13]; rfl), fun w => ?_⟩) ?_
              · exact run_fieldAddr (Try.fieldX _ _) rfl e53_13 w
              change wpAny _ _ _ _ _ _ (Act.put A13 (some 54) ((.pointer (some ⟨ga, j * 10 + 5, none⟩)))) _
              generalize hA14 : Act.put A13 (some 54) ((.pointer (some ⟨ga, j * 10 + 5, none⟩))) = A14
              have z14 : A14.tmps.size = 62 := by rw [← hA14, put_size]; exact z13
              have e0_14 : A14.eval (.tmp 0) = (.pointer (some ⟨p, 0, none⟩)) := by rw [← hA14, put_ne (by decide)]; exact e0_13
              have e7_14 : A14.eval (.tmp 7) = (.pointer (some ⟨ga, j * 10, none⟩)) := by rw [← hA14, put_ne (by decide)]; exact e7_13
              have e8_14 : A14.eval (.tmp 8) = (.pointer (some ⟨gb, j * 10, none⟩)) := by rw [← hA14, put_ne (by decide)]; exact e8_13
              have e50_14 : A14.eval (.tmp 50) = .bool (!true) := by rw [← hA14, put_ne (by decide)]; exact e50_13
              have e51_14 : A14.eval (.tmp 51) = (.pointer (some ⟨p, 0, none⟩)) := by rw [← hA14, put_ne (by decide)]; exact e51_13
              have e52_14 : A14.eval (.tmp 52) = (.pointer (some ⟨ga, j * 10, none⟩)) := by rw [← hA14, put_ne (by decide)]; exact e52_13
              have e53_14 : A14.eval (.tmp 53) = (.pointer (some ⟨ga, j * 10, none⟩)) := by rw [← hA14, put_ne (by decide)]; exact e53_13
              have e54_14 : A14.eval (.tmp 54) = (.pointer (some ⟨ga, j * 10 + 5, none⟩)) := by rw [← hA14]; exact put_same (by rw [z13]; decide)
              clear e0_13 e7_13 e8_13 e50_13 e51_13 e52_13 e53_13 z13
              refine wpAny_take (i := 14) (v := (.pointer (some ⟨gb, j * 10, none⟩))) rfl (by kernel_rfl) (by kernel_rfl) (by kernel_rfl) (fun _ _ _ h => h) (Or.inl ⟨(by rw [wanted_of (t := 50) rfl rfl (by rw [z14]; decide) e50_14]; rfl), fun w => ?_⟩) ?_
              · rw [BigFrame.run_move (.tmp 8) rfl w, e8_14]
              change wpAny _ _ _ _ _ _ (Act.put A14 (some 55) ((.pointer (some ⟨gb, j * 10, none⟩)))) _
              generalize hA15 : Act.put A14 (some 55) ((.pointer (some ⟨gb, j * 10, none⟩))) = A15
              have z15 : A15.tmps.size = 62 := by rw [← hA15, put_size]; exact z14
              have e0_15 : A15.eval (.tmp 0) = (.pointer (some ⟨p, 0, none⟩)) := by rw [← hA15, put_ne (by decide)]; exact e0_14
              have e7_15 : A15.eval (.tmp 7) = (.pointer (some ⟨ga, j * 10, none⟩)) := by rw [← hA15, put_ne (by decide)]; exact e7_14
              have e8_15 : A15.eval (.tmp 8) = (.pointer (some ⟨gb, j * 10, none⟩)) := by rw [← hA15, put_ne (by decide)]; exact e8_14
              have e50_15 : A15.eval (.tmp 50) = .bool (!true) := by rw [← hA15, put_ne (by decide)]; exact e50_14
              have e51_15 : A15.eval (.tmp 51) = (.pointer (some ⟨p, 0, none⟩)) := by rw [← hA15, put_ne (by decide)]; exact e51_14
              have e52_15 : A15.eval (.tmp 52) = (.pointer (some ⟨ga, j * 10, none⟩)) := by rw [← hA15, put_ne (by decide)]; exact e52_14
              have e53_15 : A15.eval (.tmp 53) = (.pointer (some ⟨ga, j * 10, none⟩)) := by rw [← hA15, put_ne (by decide)]; exact e53_14
              have e54_15 : A15.eval (.tmp 54) = (.pointer (some ⟨ga, j * 10 + 5, none⟩)) := by rw [← hA15, put_ne (by decide)]; exact e54_14
              have e55_15 : A15.eval (.tmp 55) = (.pointer (some ⟨gb, j * 10, none⟩)) := by rw [← hA15]; exact put_same (by rw [z14]; decide)
              clear e0_14 e7_14 e8_14 e50_14 e51_14 e52_14 e53_14 e54_14 z14
              refine wpAny_take (i := 15) (v := (.pointer (some ⟨gb, j * 10, none⟩))) rfl (by kernel_rfl) (by kernel_rfl) (by kernel_rfl) (fun _ _ _ h => h) (Or.inl ⟨(by rw [wanted_of (t := 50) rfl rfl (by rw [z15]; decide) e50_15]; rfl), fun w => ?_⟩) ?_
              · exact run_nilCheck rfl e55_15 w
              change wpAny _ _ _ _ _ _ (Act.put A15 (some 56) ((.pointer (some ⟨gb, j * 10, none⟩)))) _
              generalize hA16 : Act.put A15 (some 56) ((.pointer (some ⟨gb, j * 10, none⟩))) = A16
              have z16 : A16.tmps.size = 62 := by rw [← hA16, put_size]; exact z15
              have e0_16 : A16.eval (.tmp 0) = (.pointer (some ⟨p, 0, none⟩)) := by rw [← hA16, put_ne (by decide)]; exact e0_15
              have e7_16 : A16.eval (.tmp 7) = (.pointer (some ⟨ga, j * 10, none⟩)) := by rw [← hA16, put_ne (by decide)]; exact e7_15
              have e8_16 : A16.eval (.tmp 8) = (.pointer (some ⟨gb, j * 10, none⟩)) := by rw [← hA16, put_ne (by decide)]; exact e8_15
              have e50_16 : A16.eval (.tmp 50) = .bool (!true) := by rw [← hA16, put_ne (by decide)]; exact e50_15
              have e51_16 : A16.eval (.tmp 51) = (.pointer (some ⟨p, 0, none⟩)) := by rw [← hA16, put_ne (by decide)]; exact e51_15
              have e52_16 : A16.eval (.tmp 52) = (.pointer (some ⟨ga, j * 10, none⟩)) := by rw [← hA16, put_ne (by decide)]; exact e52_15
              have e53_16 : A16.eval (.tmp 53) = (.pointer (some ⟨ga, j * 10, none⟩)) := by rw [← hA16, put_ne (by decide)]; exact e53_15
              have e54_16 : A16.eval (.tmp 54) = (.pointer (some ⟨ga, j * 10 + 5, none⟩)) := by rw [← hA16, put_ne (by decide)]; exact e54_15
              have e55_16 : A16.eval (.tmp 55) = (.pointer (some ⟨gb, j * 10, none⟩)) := by rw [← hA16, put_ne (by decide)]; exact e55_15
              have e56_16 : A16.eval (.tmp 56) = (.pointer (some ⟨gb, j * 10, none⟩)) := by rw [← hA16]; exact put_same (by rw [z15]; decide)
              clear e0_15 e7_15 e8_15 e50_15 e51_15 e52_15 e53_15 e54_15 e55_15 z15
              refine wpAny_take (i := 16) (v := (.pointer (some ⟨gb, j * 10 + 5, none⟩))) rfl (by kernel_rfl) (by kernel_rfl) (by kernel_rfl) (fun _ _ _ h => h) (Or.inl ⟨(by rw [wanted_of (t := 50) rfl rfl (by rw [z16]; decide) e50_16]; rfl), fun w => ?_⟩) ?_
              · exact run_fieldAddr (Try.fieldX _ _) rfl e56_16 w
              change wpAny _ _ _ _ _ _ (Act.put A16 (some 57) ((.pointer (some ⟨gb, j * 10 + 5, none⟩)))) _
              generalize hA17 : Act.put A16 (some 57) ((.pointer (some ⟨gb, j * 10 + 5, none⟩))) = A17
              have z17 : A17.tmps.size = 62 := by rw [← hA17, put_size]; exact z16
              have e0_17 : A17.eval (.tmp 0) = (.pointer (some ⟨p, 0, none⟩)) := by rw [← hA17, put_ne (by decide)]; exact e0_16
              have e7_17 : A17.eval (.tmp 7) = (.pointer (some ⟨ga, j * 10, none⟩)) := by rw [← hA17, put_ne (by decide)]; exact e7_16
              have e8_17 : A17.eval (.tmp 8) = (.pointer (some ⟨gb, j * 10, none⟩)) := by rw [← hA17, put_ne (by decide)]; exact e8_16
              have e50_17 : A17.eval (.tmp 50) = .bool (!true) := by rw [← hA17, put_ne (by decide)]; exact e50_16
              have e51_17 : A17.eval (.tmp 51) = (.pointer (some ⟨p, 0, none⟩)) := by rw [← hA17, put_ne (by decide)]; exact e51_16
              have e52_17 : A17.eval (.tmp 52) = (.pointer (some ⟨ga, j * 10, none⟩)) := by rw [← hA17, put_ne (by decide)]; exact e52_16
              have e53_17 : A17.eval (.tmp 53) = (.pointer (some ⟨ga, j * 10, none⟩)) := by rw [← hA17, put_ne (by decide)]; exact e53_16
              have e54_17 : A17.eval (.tmp 54) = (.pointer (some ⟨ga, j * 10 + 5, none⟩)) := by rw [← hA17, put_ne (by decide)]; exact e54_16
              have e55_17 : A17.eval (.tmp 55) = (.pointer (some ⟨gb, j * 10, none⟩)) := by rw [← hA17, put_ne (by decide)]; exact e55_16
              have e56_17 : A17.eval (.tmp 56) = (.pointer (some ⟨gb, j * 10, none⟩)) := by rw [← hA17, put_ne (by decide)]; exact e56_16
              have e57_17 : A17.eval (.tmp 57) = (.pointer (some ⟨gb, j * 10 + 5, none⟩)) := by rw [← hA17]; exact put_same (by rw [z16]; decide)
              clear e0_16 e7_16 e8_16 e50_16 e51_16 e52_16 e53_16 e54_16 e55_16 e56_16 z16
              refine wpAny_ready (rs := [17]) (by kernel_rfl) (by simp) ?_
              refine AllReady.cons rfl (fun K hK => ?_) AllReady.nil
              refine step_call (by rw [wanted_of (t := 50) rfl rfl (by rw [z17]; decide) e50_17]; rfl) Try.enterAlike rfl #[(.pointer (some ⟨p, 0, none⟩)), (.pointer (some ⟨ga, j * 10 + 5, none⟩)), (.pointer (some ⟨gb, j * 10 + 5, none⟩))] (by simp only [List.map_toArray, List.map_cons, List.map_nil]; rw [e51_17, e54_17, e57_17]) ?_
              refine (HAL2.out _ _ HP1.out).mono ?_
              rintro e V2 ⟨r2, rfl, HP2⟩
              refine ⟨_, rfl, hK _ _ ?_⟩
              clear hK K
              change wpAny _ _ _ _ _ _ (Act.put A17 (some 58) (.bool r2)) _
              generalize hA18 : Act.put A17 (some 58) (.bool r2) = A18
              have z18 : A18.tmps.size = 62 := by rw [← hA18, put_size]; exact z17
              have e50_18 : A18.eval (.tmp 50) = .bool (!true) := by rw [← hA18, put_ne (by decide)]; exact e50_17
              have e58_18 : A18.eval (.tmp 58) = .bool r2 := by rw [← hA18]; exact put_same (by rw [z17]; decide)
              clear e0_17 e7_17 e8_17 e50_17 e51_17 e52_17 e53_17 e54_17 e55_17 e56_17 e57_17 z17
              refine wpAny_take (i := 18) (v := .bool (!r2)) rfl (by kernel_rfl) (by kernel_rfl) (by kernel_rfl) (fun _ _ _ h => h) (Or.inl ⟨(by rw [wanted_of (t := 50) rfl rfl (by rw [z18]; decide) e50_18]; rfl), fun w => ?_⟩) ?_
              · exact run_not rfl e58_18 w
              change wpAny _ _ _ _ _ _ (Act.put A18 (some 59) (.bool (!r2))) _
              generalize hA19 : Act.put A18 (some 59) (.bool (!r2)) = A19
              have z19 : A19.tmps.size = 62 := by rw [← hA19, put_size]; exact z18
              have e50_19 : A19.eval (.tmp 50) = .bool (!true) := by rw [← hA19, put_ne (by decide)]; exact e50_18
              have e59_19 : A19.eval (.tmp 59) = .bool (!r2) := by rw [← hA19]; exact put_same (by rw [z18]; decide)
              clear e50_18 e58_18 z18
              refine wpAny_take (i := 19) (v := .bool (!r2)) rfl (by kernel_rfl) (by kernel_rfl) (by kernel_rfl) (fun _ _ _ h => h) (Or.inl ⟨rfl, fun w => ?_⟩) ?_
              · exact run_pick (c := .tmp 50) (x := .const (.bool true)) (y := .tmp 59) (b := false) rfl e50_19 e59_19 w
              change wpAny _ _ _ _ _ _ (Act.put A19 (some 60) (.bool (!r2))) _
              generalize hA20 : Act.put A19 (some 60) (.bool (!r2)) = A20
              have z20 : A20.tmps.size = 62 := by rw [← hA20, put_size]; exact z19
              have e50_20 : A20.eval (.tmp 50) = .bool (!true) := by rw [← hA20, put_ne (by decide)]; exact e50_19
              have e59_20 : A20.eval (.tmp 59) = .bool (!r2) := by rw [← hA20, put_ne (by decide)]; exact e59_19
              have e60_20 : A20.eval (.tmp 60) = .bool (!r2) := by rw [← hA20]; exact put_same (by rw [z19]; decide)
              clear e50_19 e59_19 z19
              refine wpAny_done (by kernel_rfl) ?_ _
              subst hA20 hA19 hA18 hA17 hA16 hA15 hA14 hA13 hA12 hA11 hA10 hA9 hA8 hA7 hA6 hA5 hA4 hA3 hA2 hA1 hA0
              simp only [Act.put, List.setIfInBounds_toArray, List.set_cons_zero, List.set_cons_succ]
              go_wp2_with fail
              go_meet
              case rel => exact ⟨r2, rfl, HP2⟩

          case rest =>
            obtain ⟨r, rfl, HN⟩ := hcut
            clear HF1 HAL1 HAL2 HBC
            cases r with
            | true =>
              go_wp2_with fail
              go_roundw
              case rel =>
                refine ⟨j + 1, by omega, by go_num, ?_⟩
                rcases HN.out with ⟨_, q⟩ | ⟨q, _⟩
                · exact q
                · cases q
              case measure => simp [intOf]; omega
            | false =>
              go_wp2_with fail
              go_ret
              have q3 : ¬ xs = ys ∧ Kept p (p + 1) W wc := by
                rcases HN.out with ⟨q, _⟩ | q
                · cases q
                · exact q.2
              first
                | exact ⟨false, rfl, .inr ⟨rfl, q3⟩⟩
                | exact .inl ⟨rfl, .inr ⟨rfl, q3⟩⟩
                | exact .inl ⟨rfl, q3⟩
      · obtain rfl : j = len := by omega
        have HFN : Hid (LsAt (ClF (wkS d)) W p xs ys fps gps R Q K j wr) := ⟨_, _, _, _, _, _, _, _, _, hS.drop (fun q hq => List.mem_cons_of_mem _ hq), hLg, hR, hQ⟩
        clear hS hLg hR hQ HJ
        have hjl' : decide ((j : Int) < (j : Int)) = false := by simp
        go_wp2_with fail
        go_ret
        first
          | exact ⟨true, rfl, .inl ⟨rfl, HFN.out⟩⟩
          | exact .inr ⟨rfl, HFN.out⟩
          | exact .inr ⟨rfl, .inl ⟨rfl, HFN.out⟩⟩

end Go.Proofs.Ytpokheklplcamaa
