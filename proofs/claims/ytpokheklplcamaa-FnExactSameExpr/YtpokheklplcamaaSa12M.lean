/- The program's SameExpr: two lists of parts held against each other. -/
import Derived.Test.YtpokheklplcamaaSa6M
namespace Go.Proofs.Ytpokheklplcamaa
open Go.RowKit
set_option linter.unusedVariables false

/-- What is left of two rows from the j-th on. -/
theorem drop_flat {α : Type} {xss : List (List α)} {j : Nat} {x : List α} (h : xss[j]? = some x) : (xss.drop j).flatten = x ++ (xss.drop (j + 1)).flatten := by
  have hl := (List.getElem?_eq_some_iff.1 h)
  rw [List.drop_eq_getElem_cons hl.1, List.flatten_cons, hl.2]
theorem drop_sum {α : Type} {f : α → Nat} {xs : List α} {j : Nat} {x : α} (h : xs[j]? = some x) : ((xs.drop j).map f).sum = f x + ((xs.drop (j + 1)).map f).sum := by
  have hl := (List.getElem?_eq_some_iff.1 h)
  rw [List.drop_eq_getElem_cons hl.1, List.map_cons, List.sum_cons, hl.2]

/-- How the two rows stand at the j-th. -/
def LsAt {α : Type} (wk : α → Nat) (W : World) (p : Nat) (xs ys : List α) (fps gps : List (List Nat)) (R : Nat) (Q : Prop) (K : List (Nat × Obj)) (j : Nat) (w : World) : Prop :=
  ∃ met nu pv uv tv f fs R' Q', Sw W w p met nu pv uv tv f fs K ∧ Lg W p met nu f fs ((fps.drop j).flatten ++ (gps.drop j).flatten) (((xs.drop j).map wk).sum) R' Q' ∧ R' + ((xs.drop j).map wk).sum ≤ R + (xs.map wk).sum ∧ (Q' ↔ xs.take j = ys.take j ∧ Q)

set_option maxRecDepth 100000 in
set_option maxHeartbeats 4000000 in
theorem listsP (d : Nat) (W w : World) (p : Nat) (xs ys : List (Ex d)) (ga gb ca cb : Nat) (cu cv : Array Value) (fps gps : List (List Nat)) (hga : W.heap[ga]? = some (.cells cu 27 (0, 0))) (hgb : W.heap[gb]? = some (.cells cv 27 (0, 0))) (hap : ga ≠ p) (hbp : gb ≠ p) (hl : ys.length = xs.length) (hl1 : xs.length ≤ 1048576) (hz1 : szRow (szX d) xs ≤ 1048576) (hz2 : szRow (szX d) ys ≤ 1048576)
    (hx : ∀ (i : Nat) (x : Ex d), xs[i]? = some x → ∃ vs f, fps[i]? = some f ∧ vs.length = 5 ∧ (∀ (j : Nat) (u : Value), vs[j]? = some u → cu[i * 5 + j]? = some u) ∧ ExO d W vs x f)
    (hy : ∀ (i : Nat) (x : Ex d), ys[i]? = some x → ∃ vs f, gps[i]? = some f ∧ vs.length = 5 ∧ (∀ (j : Nat) (u : Value), vs[j]? = some u → cv[i * 5 + j]? = some u) ∧ ExO d W vs x f)
    (R : Nat) (Q : Prop) (K : List (Nat × Obj)) (h : LsAt (wkS d) W p xs ys fps gps R Q K 0 w) :
    Calls Try.prog 54 #[.pointer (some ⟨p, 0, none⟩), .agg #[.slice (some ⟨ga, 0, none⟩) xs.length ca, .slice (some ⟨gb, 0, none⟩) xs.length cb, .slice none 0 0, .slice none 0 0]] w fun e w' => ∃ r : Bool, e = .returned (.bool r) ∧ Hid ((r = true ∧ LsAt (wkS d) W p xs ys fps gps R Q K xs.length w') ∨ (r = false ∧ ¬ xs = ys ∧ Kept p (p + 1) W w')) := by
  obtain ⟨met, nu, pv, uv, tv, f, fs, R0, Q0, hS, hLg, hR, hQ⟩ := h
  obtain ⟨V1, hV1⟩ : ∃ V, V = w.alloc (.cells #[.slice (some ⟨ga, 0, none⟩) xs.length ca, .slice (some ⟨gb, 0, none⟩) xs.length cb, .slice none 0 0, .slice none 0 0] 96) := ⟨_, rfl⟩
  have hs1 := hS.keep _ hV1 (.cells #[.slice (some ⟨ga, 0, none⟩) xs.length ca, .slice (some ⟨gb, 0, none⟩) xs.length cb, .slice none 0 0, .slice none 0 0] 96 (0, 0)) (by rw [hV1]; exact heap_alloc_new w _)
  obtain ⟨B, hB⟩ : ∃ B : Obj, B = (.cells #[.slice (some ⟨ga, 0, none⟩) xs.length ca, .slice (some ⟨gb, 0, none⟩) xs.length cb, .slice none 0 0, .slice none 0 0] 96 (0, 0)) := ⟨_, rfl⟩
  have HBX : Hid (B = _) := hB
  rw [← hB] at hs1
  have HST : Hid (LsAt (wkS d) W p xs ys fps gps R Q ((w.heap.size, B) :: K) 0 V1) := ⟨_, _, _, _, _, _, _, _, _, hs1, hLg, hR, hQ⟩
  have HX : Hid _ := hx
  have HY : Hid _ := hy
  have HG : Hid (W.heap[ga]? = some (.cells cu 27 (0, 0)) ∧ W.heap[gb]? = some (.cells cv 27 (0, 0)) ∧ ga ≠ p ∧ gb ≠ p) := ⟨hga, hgb, hap, hbp⟩
  have HZ : Hid (szRow (szX d) xs ≤ 1048576 ∧ szRow (szX d) ys ≤ 1048576) := ⟨hz1, hz2⟩
  have HV : Hid (V1 = _) := hV1
  obtain ⟨len, hlen⟩ : ∃ l, xs.length = l := ⟨_, rfl⟩
  have HLX : Hid (xs.length = len ∧ ys.length = len) := ⟨hlen, by omega⟩
  rw [hlen] at HBX HV hl1 ⊢
  clear hS hLg hR hQ hV1 hB hs1 hx hy hga hgb hap hbp hz1 hz2 hl hlen
  go_enter Try.func54, Try.ntmps54
  go_wp2_with fail
  rw [← HV.out]
  clear HV
  go_loopw [12] (fun i wx => ∃ j : Nat, j ≤ len ∧ i = .int .i64 j ∧ Hid (LsAt (wkS d) W p xs ys fps gps R Q ((w.heap.size, B) :: K) j wx)) (fun i _ => len - (intOf i).toNat)
  case atStart => exact ⟨0, Nat.zero_le _, rfl, HST⟩
  case round =>
    obtain ⟨j, hj, rfl, HJ⟩ := hrel
    obtain ⟨met, nu, pv, uv, tv, f, fs, R', Q', hS, hLg, hR, hQ⟩ := HJ.out
    have hbx := (hS.ext _ (List.mem_cons_self ..)).1
    rw [HBX.out] at hbx
    have b0 : wr.cell? ⟨w.heap.size, 0, none⟩ = some (.slice (some ⟨ga, 0, none⟩) len ca) := by rw [cell_of_row wr _ 0 _ _ _ hbx]; rfl
    have b1 : wr.cell? ⟨w.heap.size, 1, none⟩ = some (.slice (some ⟨gb, 0, none⟩) len cb) := by rw [cell_of_row wr _ 1 _ _ _ hbx]; rfl
    have b2 : wr.cell? ⟨w.heap.size, 2, none⟩ = some (.slice none 0 0) := by rw [cell_of_row wr _ 2 _ _ _ hbx]; rfl
    clear hbx
    by_cases hjl : j < len
    · obtain ⟨x, hx⟩ : ∃ t, xs[j]? = some t := ⟨_, List.getElem?_eq_getElem (by rw [HLX.out.1]; exact hjl)⟩
      obtain ⟨y, hy⟩ : ∃ t, ys[j]? = some t := ⟨_, List.getElem?_eq_getElem (by rw [HLX.out.2]; exact hjl)⟩
      obtain ⟨vs, fx, e1, e2, e3, e4⟩ := HX.out j x hx
      obtain ⟨us, fy, e5, e6, e7, e8⟩ := HY.out j y hy
      have hL2 := hLg.less (ext' := fx ++ fy ++ ((fps.drop (j + 1)).flatten ++ (gps.drop (j + 1)).flatten)) (E' := wkS d x + ((xs.drop (j + 1)).map (wkS d)).sum) (by rw [drop_sum hx]; exact Nat.le_refl _) (fun g => by rw [drop_flat e1, drop_flat e5]; simp only [List.count_append]; omega)
      have HAL : Hid (∀ V : World, Below wr.heap.size wr V → _) := fun V hV => alike_any d W V p vs us x y fx fy _ e4 e8 (Nat.le_trans (szRow_mem hx) HZ.out.1) (Nat.le_trans (szRow_mem hy) HZ.out.2) ga (j * 5) gb (j * 5) ⟨_, _, HG.out.1, e3⟩ ⟨_, _, HG.out.2.1, e7⟩ HG.out.2.2.1 HG.out.2.2.2 _ R' Q' met nu pv uv tv f fs _ (hS.later hV) hL2
      have HST2 : Hid (∀ V0 V r, Below wr.heap.size wr V0 → AlPost W p ((fps.drop (j + 1)).flatten ++ (gps.drop (j + 1)).flatten) (((xs.drop (j + 1)).map (wkS d)).sum) R' Q' ((w.heap.size, B) :: K) (wkS d x) (x = y) V0 V r → (r = true ∧ LsAt (wkS d) W p xs ys fps gps R Q ((w.heap.size, B) :: K) (j + 1) V) ∨ (r = false ∧ ¬ xs = ys ∧ Kept p (p + 1) W V)) := fun V0 V r hV0 hA => by
        rcases hA with ⟨r1, met', nu', pv', uv', tv', f', fs', R2, Q2, s1, s2, s3, s4⟩ | ⟨r1, r2, r3⟩
        · refine .inl ⟨r1, met', nu', pv', uv', tv', f', fs', R2, Q2, s1, s2, ?_, ?_⟩
          · rw [drop_sum hx] at hR; omega
          · rw [s4, hQ]
            constructor
            · rintro ⟨q1, q2, q3⟩; exact ⟨take_same hx hy q2 q1, q3⟩
            · rintro ⟨q1, q3⟩
              refine ⟨?_, ?_, q3⟩
              · have := congrArg (fun l => l[j]?) q1
                simp only [List.getElem?_take_of_lt (Nat.lt_succ_self j)] at this
                rw [hx, hy] at this
                exact Option.some.inj this
              · have := congrArg (List.take j) q1
                rwa [List.take_take, List.take_take, Nat.min_eq_left (by omega)] at this
        · exact .inr ⟨r1, unlike_at hx hy r2, ((hS.later hV0).later r3).kept⟩
      clear e1 e2 e3 e4 e5 e6 e7 e8 hL2 hS hLg hR hQ hx hy HJ
      have hjl' : (j : Int) < (len : Int) := by omega
      go_wp2_with fail
      have hn0 := After.some wr
      have r0 := After.cell b0
      have r1 := After.cell b1
      refine wp_region_after_tail 9 (by kernel_rfl) (by kernel_rfl) ?_
      simp only [List.take_succ_cons, List.take_zero, List.drop_succ_cons, List.drop_zero]
      repeat (go_big_quiet_step (fail))
      refine wpQuiet_nil ?_
      rintro _ ⟨nq, rfl⟩
      go_wp2_with fail
      refine (HAL.out nq.now nq.bel).mono ?_
      rintro e V ⟨r, rfl, hre, HP⟩
      clear hre
      have HN : Hid _ := HST2.out nq.now V r nq.bel HP.out
      clear HP HST2 HAL r0 r1 hn0 b0 b1 b2
      cases r with
      | true =>
        go_wp2_with fail
        go_roundw
        case rel =>
          refine ⟨j + 1, by omega, by go_num, ?_⟩
          rcases HN.out with ⟨_, q⟩ | ⟨q, _⟩
          · exact q
          · cases q
        case measure => simp [intOf]; omega
      | false =>
        go_wp2_with fail
        go_ret
        refine ⟨false, rfl, .inr ?_⟩
        rcases HN.out with ⟨q, _⟩ | q
        · cases q
        · exact ⟨rfl, q.2⟩
    · obtain rfl : j = len := by omega
      have HFN : Hid (LsAt (wkS d) W p xs ys fps gps R Q K j wr) := ⟨_, _, _, _, _, _, _, _, _, hS.drop (fun q hq => List.mem_cons_of_mem _ hq), hLg, hR, hQ⟩
      clear hS hLg hR hQ HJ
      have hjl' : decide ((j : Int) < (j : Int)) = false := by simp
      go_wp2_with fail
      obtain ⟨w9, hw9⟩ : ∃ w9, w9 = wr := ⟨_, rfl⟩
      rw [← hw9] at HFN ⊢
      clear hw9 b0 b1 b2
      go_loopw [30] (fun i wx => Hid (i = .int .i64 0 ∧ wx = w9)) (fun _ _ => 0)
      case atStart => exact ⟨rfl, rfl⟩
      case round =>
        obtain ⟨rfl, rfl⟩ := hrel.out
        go_wp2_with fail
        go_ret
        first
          | exact ⟨true, rfl, .inl ⟨rfl, HFN.out⟩⟩
          | exact .inr ⟨rfl, HFN.out⟩
          | exact .inr ⟨rfl, .inl ⟨rfl, HFN.out⟩⟩

end Go.Proofs.Ytpokheklplcamaa
