/- The program's FreeOf: a step at a list of clauses. -/
import Derived.Test.YtpokheklplcamaaFr10M
import Derived.Test.YtpokheklplcamaaMOf4M
namespace Go.Proofs.Ytpokheklplcamaa
open Go.RowKit
set_option linter.unusedVariables false

set_option maxRecDepth 100000 in
set_option maxHeartbeats 4000000 in
theorem goOnC0 {W wr : World} {q nt nb : Nat} {nv sv uv : Value} {acc cb : List ByteArray} {f : Addr → Int → Option Value} {ss : List Sc} {fs : List Fs} {K : List (Nat × Obj)} {z g len c0 d : Nat} {cur : Array Value} {r1 r2 : List Nat} {R1 R2 : Nat} {F1 F2 : List ByteArray → List ByteArray}
    (h : Fw W wr q nt nb nv sv uv acc acc cb f ss ((.slice none 0 0, .slice (some ⟨g, 0, none⟩) len c0, z) :: fs) K) (hT : FTS W fs ss cb r2 R2 F2) (hc : ∀ k, (r1 ++ r2).count k ≤ 1) (hq : ∀ k ∈ r1 ++ r2, k < q) (hf : ∀ x n v, f x n = some v → ¬ x.block ∈ r1 ++ r2) (hb : nt + nb + acc.length + (R1 + R2 + 0) ≤ 20000000) (hR0 : 0 < R1) (hz0 : z = 0)
    (hg : W.heap[g]? = some (.cells cur 33 (0, 0))) (hgq : g < q) (hl0 : 0 < len) (hl1 : len ≤ 1048576) (hz : z ≤ len) (hmet : z = 0 → g ∈ r1) (hend : z = len → ∀ o, F1 o = o)
    (hnx : z < len → ∃ vs us, ∃ p x : Ex d, ∃ fp fx r1' R1' F1', ExO d W vs p fp ∧ ExO d W us x fx ∧ szX d p ≤ 1048576 ∧ szX d x ≤ 1048576 ∧ vs.length = 5 ∧ (∀ (j : Nat) (u : Value), (vs ++ us)[j]? = some u → cur[z * 10 + j]? = some u) ∧ ClF' W (.slice none 0 0, .slice (some ⟨g, 0, none⟩) len c0, z + 1) cb r1' R1' F1' ∧ (∀ k, (if z = 0 then [g] else []).count k + fp.count k + fx.count k + r1'.count k = r1.count k) ∧ R1 = 8 + (vars d p).length + wkF d x + R1' ∧ ∀ o, F1 o = F1' (freeX d (cb ++ vars d p) o x)) :
    Calls Try.prog 36 #[.pointer (some ⟨q + 3, 0, none⟩)] wr fun e w' => e = .returned (.tuple #[]) ∧ Hid (GoP W q (R1 + R2) (F2 (F1 acc)) w') := by
  have hfew : fs.length ≤ 20000000 ∧ ss.length ≤ 20000000 := by have := hT.few; omega
  have HEND : Hid (z = len → ∀ V : World, ∀ sv' uv', Fw W V q nt nb nv sv' uv' acc acc cb f ss fs K → GoP W q (R1 + R2) (F2 (F1 acc)) V) := fun e V sv' uv' hV => ⟨nt, nb, nv, sv', uv', acc, cb, f, ss, fs, K, R2, F2, hV, ⟨r2, hT, fun k => by have := hc k; rw [List.count_append] at this; simp only [List.nil_append]; omega, fun k hk => hq k (by simp only [List.nil_append] at hk; exact List.mem_append_right _ hk), fun x n v hv hx => hf x n v hv (by simp only [List.nil_append] at hx; exact List.mem_append_right _ hx), by omega⟩, by omega, by rw [hend e]⟩
  have HGO : Hid (z < len → ∃ vs : List Value, ShExpr vs ∧ (∀ (j : Nat) (u : Value), vs[j]? = some u → cur[z * 10 + j]? = some u) ∧ ∀ (V : World) (f' : Addr → Int → Option Value), (∀ x n v, f' x n = some v → f x n = some v ∨ (z = 0 ∧ x.block = g)) → ∀ sv' uv', Fw W V q nt nb nv sv' uv' acc acc cb f' ss ((.slice none 0 0, .slice (some ⟨g, 0, none⟩) len c0, z + 1) :: fs) K → Calls Try.prog 65 #[.pointer (some ⟨q + 3, 0, none⟩), .agg vs.toArray] V fun e w' => e = .returned (.tuple #[]) ∧ Hid (Calls Try.prog 35 #[.pointer (some ⟨q + 3, 0, none⟩), .pointer (some ⟨g, z * 10 + 5, none⟩)] w' fun e w' => e = .returned (.tuple #[]) ∧ Hid (GoP W q (R1 + R2) (F2 (F1 acc)) w'))) := fun e => by
    obtain ⟨vs, us, p, x, fp, fx, r1', R1', F1', k1, k2, k3, k4, k5, k6, k7, k8, k9, k10⟩ := hnx e
    refine ⟨vs, ExO.shape d _ _ _ _ k1, fun j u hu => k6 j u (by rw [List.getElem?_append_left (List.getElem?_eq_some_iff.1 hu).1]; exact hu), fun V f' hf' sv' uv' hV => ?_⟩
    have hsub : ∀ k, fp.count k ≤ r1.count k := fun k => by have := k8 k; omega
    have hc1 : ∀ k, r1.count k ≤ 1 := fun k => by have := hc k; rw [List.count_append] at this; omega
    refine (enter_any hV (by omega) (by omega) d vs p fp k1 (List.nodup_iff_count.2 fun k => Nat.le_trans (hsub k) (hc1 k)) (fun k hk => hq k (List.mem_append_left _ (List.count_pos_iff.1 (by have := hsub k; have := List.count_pos_iff.2 hk; omega)))) k3).mono ?_
    rintro e w' ⟨rfl, HQ⟩
    refine ⟨rfl, ?_⟩
    obtain ⟨nb', sv2, sc2, cb', K', m1, m2, m3, m4, m5, m6⟩ := HQ.out
    refine (come_any m6 d us x fx [] k2 k4 g (z * 10 + 5) ⟨cur, _, hg, fun j u hu => by have := k6 (5 + j) u (by rw [List.getElem?_append_right (by omega), k5, Nat.add_sub_cancel_left]; exact hu); rw [← Nat.add_assoc] at this; exact this⟩ hgq 0 (R1' + R2) _ (Lf.nextC k7 hT m4 m5 m2 hc hq hf k8 k9 hb m1 hf')).mono ?_
    rintro e w'' ⟨rfl, HQ2⟩
    obtain ⟨nt', nv', uv'', acc', fs', R', F', g1, g2, g3, g4⟩ := HQ2.out
    exact ⟨rfl, nt', nb', nv', sv2, uv'', acc', cb', f', sc2 :: ss, fs', K', R', F', g1, g2, by omega, by rw [g4, k10, freeX_alike d acc x (fun y => (m3 y).trans List.mem_append.symm)]⟩
  have HFZ : Hid (z = 0 → f ⟨g, 0, none⟩ len = none) := fun e => by
    cases hv : f ⟨g, 0, none⟩ len with
    | none => rfl
    | some v => exact absurd (List.mem_append_left _ (hmet e)) (hf _ _ v hv)
  obtain ⟨VV, hVV⟩ : ∃ V, F2 (F1 acc) = V := ⟨_, rfl⟩
  obtain ⟨RR, hRR⟩ : ∃ R, R1 + R2 = R := ⟨_, rfl⟩
  rw [hVV, hRR] at HEND HGO ⊢
  have hss : ss.length ≤ 20000000 := by omega
  have HGQ : Hid (∀ V : World, Below q W V → V.heap[g]? = some (.cells cur 33 (0, 0))) := fun V hV => (hV.block _ hgq).trans hg
  clear hT hc hq hf hb hR0 hmet hend hnx hVV hRR
  have HZZ : Hid (z = 0) := hz0
  clear hz0
  have hr := h.und
  rw [ucells_cons, List.length_cons] at hr
  obtain ⟨u, c, rfl, q1, q2, q3, q4, q5⟩ := rowlast_any hr (ucells_len fs)
  have t0 := q5 0 _ rfl
  have t1 := q5 1 _ rfl
  have t2 := q5 2 _ rfl
  rw [Nat.add_zero] at t0
  obtain ⟨n, hn⟩ : ∃ n, fs.length = n := ⟨_, rfl⟩
  have HN : Hid (fs.length = n) := hn
  obtain ⟨_, _, _, _, _, c5, _⟩ := h.cells
  rw [hn] at t0 t1 t2 q3 c5
  have HF : Hid (Fw W wr q nt nb nv sv _ acc acc cb f ss _ K) := h
  have hnb : n ≤ 20000000 := by rw [← hn]; exact hfew.1
  clear h hr q4 q5 hn
  go_enter Try.func36, Try.ntmps36
  go_wp2_with fail
  go_cut [2] (fun v wx => v = .pointer (some ⟨u, n * 3, none⟩) ∧ Hid (Below wr.heap.size wr wx))
  case first =>
    go_quiet (fail)
    go_wp2_with fail
    go_meet
    case rel => exact ⟨rfl, below_drewN (Below.refl _ _) _⟩
  case rest =>
  obtain ⟨rfl, HB1⟩ := hcut
  obtain ⟨w0, hw0⟩ : ∃ w0, w0 = wc := ⟨_, rfl⟩
  rw [← hw0] at HB1 ⊢
  have t0' := cell_later HB1.out t0
  have t1' := cell_later HB1.out t1
  have t2' := cell_later HB1.out t2
  have HF0 : Hid (Fw W w0 q nt nb nv sv _ acc acc cb f ss _ K) := HF.out.later HB1.out
  clear t0 t1 t2 HF HB1 hw0 c5
  go_wp2_with fail
  go_cut [3, 4, 5] (fun a b e wx => a = .slice none 0 0 ∧ b = .slice (some ⟨g, 0, none⟩) len c0 ∧ e = .int .i64 (z : Nat) ∧ Hid (Below w0.heap.size w0 wx))
  case first =>
    go_quiet (fail)
    go_wp2_with fail
    go_meet
    case rel => exact ⟨rfl, rfl, rfl, below_drewN (Below.refl _ _) _⟩
  case rest =>
  obtain ⟨rfl, rfl, rfl, HB1⟩ := hcut
  obtain ⟨w1, hw1⟩ : ∃ w1, w1 = wc := ⟨_, rfl⟩
  rw [← hw1] at HB1 ⊢
  have HF1 : Hid (Fw W w1 q nt nb nv sv (.slice (some ⟨u, 0, none⟩) (n + 1) c) acc acc cb f ss ((.slice none 0 0, .slice (some ⟨g, 0, none⟩) len c0, z) :: fs) K) := by rw [← HN.out]; exact HF0.out.later HB1.out
  clear t0' t1' t2' HF0 HB1 hw1

  have hz0 := HZZ.out
  have hNN := HN
  have hdt := HF1.out.und
  rw [ucells_cons, List.length_cons] at hdt
  obtain ⟨ut, ct, et, y1t, y2t, y3t, y4t, y5t⟩ := rowlast_any hdt (ucells_len fs)
  have eut : ut = u := by simp only [Value.slice.injEq, Option.some.injEq, Addr.mk.injEq, and_true] at et; exact et.1.symm
  rw [eut] at y5t y4t y2t y1t
  have t0 := y5t 0 _ rfl
  have t1 := y5t 1 _ rfl
  have t2 := y5t 2 _ rfl
  have tz := y4t (n * 3 + 2)
  rw [Nat.add_zero, HN.out] at t0
  rw [HN.out] at t1 t2
  have tu : u < _ := y2t
  have tq : q + 4 ≤ u := y1t
  clear hdt et eut y1t y2t y3t y4t y5t

  have hzl : z < len := by omega
  obtain ⟨vs, ⟨i0, i1, s2, a3, l3, c3, a4, l4, c4, rfl⟩, hcl, HG⟩ := HGO.out hzl
  have HZ0 : Hid (f ⟨g, 0, none⟩ len = none) := HFZ.out hz0
  subst hz0
  have HG0 : Hid (∀ (V : World) sv' uv', Fw W V q nt nb nv sv' uv' acc acc cb (upd f ⟨g, 0, none⟩ len (topS ss)) ss ((.slice none 0 0, .slice (some ⟨g, 0, none⟩) len c0, 0 + 1) :: fs) K → _) := fun V sv' uv' hV => HG V _ (upd_met rfl) sv' uv' hV
  have hS := spotC_any u (n * 3) g len c0 hl0 hl1 w1 t0 t1 tu
  have hlen0 : ((0 : Int) == (len : Int)) = false := by simp; omega
  have hlenp : (0 : Int) < (len : Int) := by omega
  have hcl' := hcl
  clear HEND HGO HFZ HG hcl
  have HCL : Hid _ := hcl'
  clear hcl'
  go_wp2_with fail
  refine hS.mono ?_
  clear hS t0 t1 t2 tz tu tq
  rintro _ w2 ⟨rfl, hb2⟩
  have HF2 : Hid (Fw W w2 q nt nb nv sv (.slice (some ⟨u, 0, none⟩) (n + 1) c) acc acc cb f ss ((.slice none 0 0, .slice (some ⟨g, 0, none⟩) len c0, 0) :: fs) K) := HF1.out.later hb2
  have hO := opens_any HF2.out (by omega) g len cur _ hg hgq HZ0.out
  clear hb2 HF1 HZ0
  go_wp2_with fail
  refine hO.mono ?_
  clear hO HF2
  rintro _ w3 ⟨rfl, HF3⟩
  have hcl := HCL.out
  clear HCL
  have hdv := HF3.out.und
  rw [ucells_cons, List.length_cons] at hdv
  obtain ⟨uv, cv, ev, y1v, y2v, y3v, y4v, y5v⟩ := rowlast_any hdv (ucells_len fs)
  have euv : uv = u := by simp only [Value.slice.injEq, Option.some.injEq, Addr.mk.injEq, and_true] at ev; exact ev.1.symm
  rw [euv] at y5v y4v y2v y1v
  have v0 := y5v 0 _ rfl
  have v1 := y5v 1 _ rfl
  have v2 := y5v 2 _ rfl
  have vz := y4v (n * 3 + 2)
  rw [Nat.add_zero, HN.out] at v0
  rw [HN.out] at v1 v2
  have vu : u < _ := y2v
  have vq : q + 4 ≤ u := y1v
  clear hdv ev euv y1v y2v y3v y4v y5v
  have x0 : w3.cell? ⟨g, 0, none⟩ = some (.int .i64 i0) := by rw [cell_of_row w3 _ _ _ _ _ (HGQ.out _ HF3.out.bel)]; exact (by simpa using hcl 0 _ rfl)
  have x1 : w3.cell? ⟨g, 1, none⟩ = some (.int .i64 i1) := by rw [cell_of_row w3 _ _ _ _ _ (HGQ.out _ HF3.out.bel)]; exact (by simpa using hcl 1 _ rfl)
  have x2 : w3.cell? ⟨g, 2, none⟩ = some (.string s2) := by rw [cell_of_row w3 _ _ _ _ _ (HGQ.out _ HF3.out.bel)]; exact (by simpa using hcl 2 _ rfl)
  have x3 : w3.cell? ⟨g, 3, none⟩ = some (.slice a3 l3 c3) := by rw [cell_of_row w3 _ _ _ _ _ (HGQ.out _ HF3.out.bel)]; exact (by simpa using hcl 3 _ rfl)
  have x4 : w3.cell? ⟨g, 4, none⟩ = some (.slice a4 l4 c4) := by rw [cell_of_row w3 _ _ _ _ _ (HGQ.out _ HF3.out.bel)]; exact (by simpa using hcl 4 _ rfl)
  have HF4 : Hid _ := HF3.out.next_und (by rw [HN.out])
  rw [HN.out] at HF4
  have hC := HG0.out _ _ _ HF4.out
  have hug : u ≠ g := by omega
  have hgu : g ≠ u := by omega
  clear HF4 HG0 hcl HGQ
  go_wp2_with fail
  refine hC.mono ?_
  clear hC
  rintro _ w5 ⟨rfl, HCM⟩
  go_wp2_with fail
  refine HCM.out.mono ?_
  clear HCM
  rintro _ w6 ⟨rfl, HQ⟩
  go_wp2_with fail
  ((try simp only [Exit.inBlock, Exit.then]); refine bodyPost_ret (results_none rfl _ _ _) rfl ?_)
  exact ⟨rfl, HQ.out⟩

set_option maxRecDepth 100000 in
set_option maxHeartbeats 4000000 in
theorem goOnC1 {W wr : World} {q nt nb : Nat} {nv sv uv : Value} {acc cb b : List ByteArray} {f : Addr → Int → Option Value} {ss : List Sc} {sc : Sc} {fs : List Fs} {K : List (Nat × Obj)} {z g len c0 d : Nat} {cur : Array Value} {r1 r2 : List Nat} {R1 R2 : Nat} {F1 F2 : List ByteArray → List ByteArray}
    (h : Fw W wr q nt nb nv sv uv acc acc cb f (sc :: ss) ((.slice none 0 0, .slice (some ⟨g, 0, none⟩) len c0, z) :: fs) K) (hT : FTS W fs ss b r2 R2 F2) (hc : ∀ k, (r1 ++ r2).count k ≤ 1) (hq : ∀ k ∈ r1 ++ r2, k < q) (hf : ∀ x n v, f x n = some v → ¬ x.block ∈ r1 ++ r2) (hb : nt + nb + acc.length + (R1 + R2 + 0) ≤ 20000000) (hR0 : 0 < R1) (hcb : ∀ x, x ∈ cb ↔ x ∈ sc.2 ∨ x ∈ b) (hno : ∀ x ∈ sc.2, ¬ x ∈ b) (hdl : sc.2.length ≤ 30000000) (hz1 : 0 < z)
    (hg : W.heap[g]? = some (.cells cur 33 (0, 0))) (hgq : g < q) (hl0 : 0 < len) (hl1 : len ≤ 1048576) (hz : z ≤ len) (hmet : z = 0 → g ∈ r1) (hend : z = len → ∀ o, F1 o = o)
    (hnx : z < len → ∃ vs us, ∃ p x : Ex d, ∃ fp fx r1' R1' F1', ExO d W vs p fp ∧ ExO d W us x fx ∧ szX d p ≤ 1048576 ∧ szX d x ≤ 1048576 ∧ vs.length = 5 ∧ (∀ (j : Nat) (u : Value), (vs ++ us)[j]? = some u → cur[z * 10 + j]? = some u) ∧ ClF' W (.slice none 0 0, .slice (some ⟨g, 0, none⟩) len c0, z + 1) b r1' R1' F1' ∧ (∀ k, (if z = 0 then [g] else []).count k + fp.count k + fx.count k + r1'.count k = r1.count k) ∧ R1 = 8 + (vars d p).length + wkF d x + R1' ∧ ∀ o, F1 o = F1' (freeX d (b ++ vars d p) o x)) :
    Calls Try.prog 36 #[.pointer (some ⟨q + 3, 0, none⟩)] wr fun e w' => e = .returned (.tuple #[]) ∧ Hid (GoP W q (R1 + R2) (F2 (F1 acc)) w') := by
  have hfew : fs.length ≤ 20000000 ∧ ss.length ≤ 20000000 := by have := hT.few; omega
  have HEND : Hid (z = len → ∀ V : World, ∀ sv' uv', Fw W V q nt nb nv sv' uv' acc acc b f ss fs K → GoP W q (R1 + R2) (F2 (F1 acc)) V) := fun e V sv' uv' hV => ⟨nt, nb, nv, sv', uv', acc, b, f, ss, fs, K, R2, F2, hV, ⟨r2, hT, fun k => by have := hc k; rw [List.count_append] at this; simp only [List.nil_append]; omega, fun k hk => hq k (by simp only [List.nil_append] at hk; exact List.mem_append_right _ hk), fun x n v hv hx => hf x n v hv (by simp only [List.nil_append] at hx; exact List.mem_append_right _ hx), by omega⟩, by omega, by rw [hend e]⟩
  have HGO : Hid (z < len → ∃ vs : List Value, ShExpr vs ∧ (∀ (j : Nat) (u : Value), vs[j]? = some u → cur[z * 10 + j]? = some u) ∧ ∀ (V : World) (f' : Addr → Int → Option Value), (∀ x n v, f' x n = some v → f x n = some v ∨ (z = 0 ∧ x.block = g)) → ∀ sv' uv', Fw W V q nt nb nv sv' uv' acc acc b f' ss ((.slice none 0 0, .slice (some ⟨g, 0, none⟩) len c0, z + 1) :: fs) K → Calls Try.prog 65 #[.pointer (some ⟨q + 3, 0, none⟩), .agg vs.toArray] V fun e w' => e = .returned (.tuple #[]) ∧ Hid (Calls Try.prog 35 #[.pointer (some ⟨q + 3, 0, none⟩), .pointer (some ⟨g, z * 10 + 5, none⟩)] w' fun e w' => e = .returned (.tuple #[]) ∧ Hid (GoP W q (R1 + R2) (F2 (F1 acc)) w'))) := fun e => by
    obtain ⟨vs, us, p, x, fp, fx, r1', R1', F1', k1, k2, k3, k4, k5, k6, k7, k8, k9, k10⟩ := hnx e
    refine ⟨vs, ExO.shape d _ _ _ _ k1, fun j u hu => k6 j u (by rw [List.getElem?_append_left (List.getElem?_eq_some_iff.1 hu).1]; exact hu), fun V f' hf' sv' uv' hV => ?_⟩
    have hsub : ∀ k, fp.count k ≤ r1.count k := fun k => by have := k8 k; omega
    have hc1 : ∀ k, r1.count k ≤ 1 := fun k => by have := hc k; rw [List.count_append] at this; omega
    refine (enter_any hV (by omega) (by omega) d vs p fp k1 (List.nodup_iff_count.2 fun k => Nat.le_trans (hsub k) (hc1 k)) (fun k hk => hq k (List.mem_append_left _ (List.count_pos_iff.1 (by have := hsub k; have := List.count_pos_iff.2 hk; omega)))) k3).mono ?_
    rintro e w' ⟨rfl, HQ⟩
    refine ⟨rfl, ?_⟩
    obtain ⟨nb', sv2, sc2, cb', K', m1, m2, m3, m4, m5, m6⟩ := HQ.out
    refine (come_any m6 d us x fx [] k2 k4 g (z * 10 + 5) ⟨cur, _, hg, fun j u hu => by have := k6 (5 + j) u (by rw [List.getElem?_append_right (by omega), k5, Nat.add_sub_cancel_left]; exact hu); rw [← Nat.add_assoc] at this; exact this⟩ hgq 0 (R1' + R2) _ (Lf.nextC k7 hT m4 m5 m2 hc hq hf k8 k9 hb m1 hf')).mono ?_
    rintro e w'' ⟨rfl, HQ2⟩
    obtain ⟨nt', nv', uv'', acc', fs', R', F', g1, g2, g3, g4⟩ := HQ2.out
    exact ⟨rfl, nt', nb', nv', sv2, uv'', acc', cb', f', sc2 :: ss, fs', K', R', F', g1, g2, by omega, by rw [g4, k10, freeX_alike d acc x (fun y => (m3 y).trans List.mem_append.symm)]⟩
  have HFZ : Hid (z = 0 → f ⟨g, 0, none⟩ len = none) := fun e => by
    cases hv : f ⟨g, 0, none⟩ len with
    | none => rfl
    | some v => exact absurd (List.mem_append_left _ (hmet e)) (hf _ _ v hv)
  obtain ⟨VV, hVV⟩ : ∃ V, F2 (F1 acc) = V := ⟨_, rfl⟩
  obtain ⟨RR, hRR⟩ : ∃ R, R1 + R2 = R := ⟨_, rfl⟩
  rw [hVV, hRR] at HEND HGO ⊢
  have hss : ss.length ≤ 20000000 := by omega
  have HGQ : Hid (∀ V : World, Below q W V → V.heap[g]? = some (.cells cur 33 (0, 0))) := fun V hV => (hV.block _ hgq).trans hg
  clear hT hc hq hf hb hR0 hmet hend hnx hVV hRR
  have hr := h.und
  rw [ucells_cons, List.length_cons] at hr
  obtain ⟨u, c, rfl, q1, q2, q3, q4, q5⟩ := rowlast_any hr (ucells_len fs)
  have t0 := q5 0 _ rfl
  have t1 := q5 1 _ rfl
  have t2 := q5 2 _ rfl
  rw [Nat.add_zero] at t0
  obtain ⟨n, hn⟩ : ∃ n, fs.length = n := ⟨_, rfl⟩
  have HN : Hid (fs.length = n) := hn
  obtain ⟨_, _, _, _, _, c5, _⟩ := h.cells
  rw [hn] at t0 t1 t2 q3 c5
  have HF : Hid (Fw W wr q nt nb nv sv _ acc acc cb f (sc :: ss) _ K) := h
  have hnb : n ≤ 20000000 := by rw [← hn]; exact hfew.1
  clear h hr q4 q5 hn
  go_enter Try.func36, Try.ntmps36
  go_wp2_with fail
  go_cut [2] (fun v wx => v = .pointer (some ⟨u, n * 3, none⟩) ∧ Hid (Below wr.heap.size wr wx))
  case first =>
    go_quiet (fail)
    go_wp2_with fail
    go_meet
    case rel => exact ⟨rfl, below_drewN (Below.refl _ _) _⟩
  case rest =>
  obtain ⟨rfl, HB1⟩ := hcut
  obtain ⟨w0, hw0⟩ : ∃ w0, w0 = wc := ⟨_, rfl⟩
  rw [← hw0] at HB1 ⊢
  have t0' := cell_later HB1.out t0
  have t1' := cell_later HB1.out t1
  have t2' := cell_later HB1.out t2
  have HF0 : Hid (Fw W w0 q nt nb nv sv _ acc acc cb f (sc :: ss) _ K) := HF.out.later HB1.out
  clear t0 t1 t2 HF HB1 hw0 c5
  go_wp2_with fail
  go_cut [3, 4, 5] (fun a b e wx => a = .slice none 0 0 ∧ b = .slice (some ⟨g, 0, none⟩) len c0 ∧ e = .int .i64 (z : Nat) ∧ Hid (Below w0.heap.size w0 wx))
  case first =>
    go_quiet (fail)
    go_wp2_with fail
    go_meet
    case rel => exact ⟨rfl, rfl, rfl, below_drewN (Below.refl _ _) _⟩
  case rest =>
  obtain ⟨rfl, rfl, rfl, HB1⟩ := hcut
  obtain ⟨w1, hw1⟩ : ∃ w1, w1 = wc := ⟨_, rfl⟩
  rw [← hw1] at HB1 ⊢
  have HF1 : Hid (Fw W w1 q nt nb nv sv (.slice (some ⟨u, 0, none⟩) (n + 1) c) acc acc cb f (sc :: ss) ((.slice none 0 0, .slice (some ⟨g, 0, none⟩) len c0, z) :: fs) K) := by rw [← HN.out]; exact HF0.out.later HB1.out
  clear t0' t1' t2' HF0 HB1 hw1

  have hL := leave_any HF1.out (by omega) hdl hcb hno
  have hz0 : (0 : Int) < (z : Int) := by omega
  have hz2 : ((z : Int) == 0) = false := by simp; omega
  have hlenp : (0 : Int) < (len : Int) := by omega
  clear HF1 hcb hno hdl HFZ hz1
  go_wp2_with fail
  refine hL.mono ?_
  clear hL
  rintro _ w2 ⟨rfl, HQ⟩
  obtain ⟨sv2, hF2⟩ := HQ.out
  have HF2 : Hid (Fw W w2 q nt nb nv sv2 (.slice (some ⟨u, 0, none⟩) (n + 1) c) acc acc b f ss ((.slice none 0 0, .slice (some ⟨g, 0, none⟩) len c0, z) :: fs) K) := hF2
  clear HQ hF2
  by_cases hzl : z = len
  · have HE := HEND.out hzl
    have hzl' : ((z : Int) == (len : Int)) = true := by simp; omega
    subst hzl
    clear HEND HGO
    obtain ⟨_, _, _, _, _, v5, vz⟩ := HF2.out.cells
    have z5 := vz 5
    have hpz : q + 3 < w2.heap.size := by have := HF2.out.sz; omega
    have hpop := (HF2.out.pop_und (by rw [HN.out])).later (Below.refl _ _).drew
    rw [HN.out] at hpop
    have HP : Hid (Fw W _ q _ nb _ _ _ acc acc _ f _ fs K) := hpop
    clear vz hpop
    go_wp2_with fail
    go_region
    all_goals
      go_wp2_with fail
      ((try simp only [Exit.inBlock, Exit.then]); refine bodyPost_ret (results_none rfl _ _ _) rfl ?_)
      exact ⟨rfl, HE _ _ _ HP.out⟩

  · have hzl' : ((z : Int) == (len : Int)) = false := by simp; omega
    have hzlt : (z : Int) < (len : Int) := by omega
    obtain ⟨vs, ⟨i0, i1, s2, a3, l3, c3, a4, l4, c4, rfl⟩, hcl, HG⟩ := HGO.out (by omega)
    have HG0 : Hid (∀ (V : World) sv' uv', Fw W V q nt nb nv sv' uv' acc acc b f ss ((.slice none 0 0, .slice (some ⟨g, 0, none⟩) len c0, z + 1) :: fs) K → _) := fun V sv' uv' hV => HG V _ (fun x n v hv => .inl hv) sv' uv' hV
    clear HEND HGO HG
    have hdv := HF2.out.und
    rw [ucells_cons, List.length_cons] at hdv
    obtain ⟨uv, cv, ev, y1v, y2v, y3v, y4v, y5v⟩ := rowlast_any hdv (ucells_len fs)
    have euv : uv = u := by simp only [Value.slice.injEq, Option.some.injEq, Addr.mk.injEq, and_true] at ev; exact ev.1.symm
    rw [euv] at y5v y4v y2v y1v
    have v0 := y5v 0 _ rfl
    have v1 := y5v 1 _ rfl
    have v2 := y5v 2 _ rfl
    have vz := y4v (n * 3 + 2)
    rw [Nat.add_zero, HN.out] at v0
    rw [HN.out] at v1 v2
    have vu : u < _ := y2v
    have vq : q + 4 ≤ u := y1v
    clear hdv ev euv y1v y2v y3v y4v y5v
    have x0 : w2.cell? ⟨g, z * 10, none⟩ = some (.int .i64 i0) := by rw [cell_of_row w2 _ _ _ _ _ (HGQ.out _ HF2.out.bel)]; exact hcl 0 _ rfl
    have x1 : w2.cell? ⟨g, z * 10 + 1, none⟩ = some (.int .i64 i1) := by rw [cell_of_row w2 _ _ _ _ _ (HGQ.out _ HF2.out.bel)]; exact hcl 1 _ rfl
    have x2 : w2.cell? ⟨g, z * 10 + 2, none⟩ = some (.string s2) := by rw [cell_of_row w2 _ _ _ _ _ (HGQ.out _ HF2.out.bel)]; exact hcl 2 _ rfl
    have x3 : w2.cell? ⟨g, z * 10 + 3, none⟩ = some (.slice a3 l3 c3) := by rw [cell_of_row w2 _ _ _ _ _ (HGQ.out _ HF2.out.bel)]; exact hcl 3 _ rfl
    have x4 : w2.cell? ⟨g, z * 10 + 4, none⟩ = some (.slice a4 l4 c4) := by rw [cell_of_row w2 _ _ _ _ _ (HGQ.out _ HF2.out.bel)]; exact hcl 4 _ rfl
    have HF4 : Hid _ := HF2.out.next_und (by rw [HN.out])
    rw [HN.out] at HF4
    have hC := HG0.out _ _ _ HF4.out
    have hug : u ≠ g := by omega
    have hgu : g ≠ u := by omega
    clear HF4 HG0 hcl HGQ
    go_wp2_with fail
    refine hC.mono ?_
    clear hC
    rintro _ w5 ⟨rfl, HCM⟩
    go_wp2_with fail
    refine HCM.out.mono ?_
    clear HCM
    rintro _ w6 ⟨rfl, HQ⟩
    go_wp2_with fail
    ((try simp only [Exit.inBlock, Exit.then]); refine bodyPost_ret (results_none rfl _ _ _) rfl ?_)
    exact ⟨rfl, HQ.out⟩

end Go.Proofs.Ytpokheklplcamaa

/- The program's FreeOf, whole. -/
namespace Go.Proofs.Ytpokheklplcamaa
open Go.RowKit
set_option linter.unusedVariables false

/-- A step, whatever is on top. -/
theorem goOn_any {W wr : World} {q nt nb : Nat} {nv sv uv : Value} {acc cb : List ByteArray} {f : Addr → Int → Option Value} {ss : List Sc} {fr : Fs} {fs : List Fs} {K : List (Nat × Obj)} {R : Nat} {F : List ByteArray → List ByteArray} (h : Fw W wr q nt nb nv sv uv acc acc cb f ss (fr :: fs) K) (hL : Lf W q nt nb acc f (fr :: fs) ss cb [] 0 R F) (hW : ∀ (g : Nat) (cur : Array Value), (W.heap[g]? = some (.cells cur 27 (0, 0)) → g < q) ∧ (W.heap[g]? = some (.cells cur 33 (0, 0)) → g < q)) :
    Calls Try.prog 36 #[.pointer (some ⟨q + 3, 0, none⟩)] wr fun e w' => e = .returned (.tuple #[]) ∧ Hid (GoP W q R (F acc) w') := by
  obtain ⟨fa, fb, z⟩ := fr
  obtain ⟨rs, hT, hc, hq, hf, hb⟩ := hL
  simp only [List.nil_append] at hc hq hf
  rcases hT with ⟨r1, R1, F1, r2, R2, F2, hP, hT, rfl, rfl, rfl⟩ | ⟨h0, r1, R1, F1, r2, R2, F2, hP, hT, rfl, rfl, rfl⟩ | ⟨h0, sc, ss', b, r1, R1, F1, r2, R2, F2, rfl, hs1, hs2, hs3, hP, hT, rfl, rfl, rfl⟩
  · obtain ⟨d, n, g, c, cur, k1, k2, k3, k4, k5, k6, k7, k8, k9⟩ := hP.next
    simp only [] at k1 k2 k6 k7 k8 k9
    subst k1 k2
    exact goOnP h hT hc hq hf hb hP.pos k3 ((hW g cur).1 k3) k4 k5 k6 k7 k8 k9
  · obtain ⟨d, n, g, c, cur, k1, k2, k3, k4, k5, k6, k7, k8, k9⟩ := hP.next
    simp only [] at h0 k1 k2 k6 k7 k8 k9
    subst k1 k2
    exact goOnC0 h hT hc hq hf hb hP.pos h0 k3 ((hW g cur).2 k3) k4 k5 k6 k7 k8 k9
  · obtain ⟨d, n, g, c, cur, k1, k2, k3, k4, k5, k6, k7, k8, k9⟩ := hP.next
    simp only [] at h0 k1 k2 k6 k7 k8 k9
    subst k1 k2
    exact goOnC1 h hT hc hq hf hb hP.pos hs1 hs2 hs3 h0 k3 ((hW g cur).2 k3) k4 k5 k6 k7 k8 k9

theorem wkF_le : ∀ (d : Nat) (e : Ex d), wkF d e ≤ 8 + 17 * szX d e
  | 0, e => Nat.le_add_right _ _
  | d + 1, e => by
    have h1 : ∀ xs : List (Ex d), (xs.map fun x => wkF d x).sum ≤ 17 * szRow (szX d) xs := fun xs => by
      unfold szRow
      induction xs with
      | nil => exact Nat.zero_le _
      | cons x xs ih => simp only [List.map_cons, List.sum_cons, List.length_cons]; have := wkF_le d x; omega
    have h2 : ∀ xs : List (Ex d × Ex d), (xs.map fun c => 8 + (vars d c.1).length + wkF d c.2).sum ≤ 17 * szRow (ClF (szX d)) xs := fun xs => by
      unfold szRow
      induction xs with
      | nil => exact Nat.zero_le _
      | cons x xs ih =>
        simp only [List.map_cons, List.sum_cons, List.length_cons]
        have := wkF_le d x.2
        have := vars_len d x.1
        have : ClF (szX d) x = szX d x.1 + szX d x.2 := rfl
        omega
    have := h1 e.E
    have := h2 e.C
    show 8 + (e.E.map fun x => wkF d x).sum + (e.C.map fun c => 8 + (vars d c.1).length + wkF d c.2).sum ≤ 8 + 17 * (e.S.size + szRow (szX d) e.E + szRow (ClF (szX d)) e.C)
    omega

theorem row_low {w : World} {B B' e z n : Nat} {v : Value} {xs : List Value} (h : w.ownsRow B e z v n xs) (hb : B' ≤ B) : w.ownsRow B' e z v n xs := by
  obtain ⟨h1, h2⟩ := h
  refine ⟨h1, ?_⟩
  rcases h2 with h2 | ⟨g, c, cur, e1, e2, e3⟩
  · exact .inl h2
  · exact .inr ⟨g, c, cur, e1, Nat.le_trans hb e2, e3⟩

/-- How the loop stands. -/
def FI (W : World) (q : Nat) (V : List ByteArray) (wr : World) (R : Nat) : Prop := ∃ nt nb nv sv uv acc cb f ss fs K F, Fw W wr q nt nb nv sv uv acc acc cb f ss fs K ∧ Lf W q nt nb acc f fs ss cb [] 0 R F ∧ F acc = V

theorem least1 (p : World → Nat → Prop) : ∃ μ : World → Nat, ∀ c n, p c n → p c (μ c) ∧ μ c ≤ n := by
  obtain ⟨μ, h⟩ := least_work (fun _ _ c n => p c n)
  exact ⟨fun c => μ (.bool true) (.bool true) c, fun c n hn => h _ _ c n hn⟩

set_option maxRecDepth 100000 in
set_option maxHeartbeats 4000000 in
theorem freeOf_any (d : Nat) (vs : List Value) (x : Ex d) (fp : List Nat) (w : World) (hown : ExO d w vs x fp) (hnd : fp.Nodup) (hlt : ∀ g ∈ fp, g < w.heap.size) (hz : szX d x ≤ 1048576) :
    Calls Try.prog 10 #[.agg vs.toArray] w fun r w' => ∃ v, r = .returned v ∧ Hid (StrRow w' w.heap.size v (freeX d [] [] x)) ∧ Below w.heap.size w w' := by
  obtain ⟨i0, i1, s2, a3, l3, c3, a4, l4, c4, rfl⟩ := ExO.shape d w vs x fp hown
  obtain ⟨B, hB⟩ : ∃ B, B = w.alloc (.cells #[.int .i64 i0, .int .i64 i1, .string s2, .slice a3 l3 c3, .slice a4 l4 c4] 27) := ⟨_, rfl⟩
  obtain ⟨B1, hB1⟩ : ∃ B1, B1 = B.alloc (.map #[] 0) := ⟨_, rfl⟩
  obtain ⟨B2, hB2⟩ : ∃ B2, B2 = B1.alloc (.map #[] 0) := ⟨_, rfl⟩
  obtain ⟨B3, hB3⟩ : ∃ B3, B3 = B2.alloc (.map #[] 0) := ⟨_, rfl⟩
  obtain ⟨W, hW⟩ : ∃ W, W = B3.alloc (.cells #[.slice none 0 0, .map (some (w.heap.size + 1 + 1)), .map (some (w.heap.size + 1)), .slice none 0 0, .map (some (w.heap.size + 1 + 1 + 1)), .slice none 0 0] 67) := ⟨_, rfl⟩
  have s0 : B.heap.size = w.heap.size + 1 := by rw [hB]; simp
  have s1 : B1.heap.size = w.heap.size + 1 + 1 := by rw [hB1]; simp [s0]
  have s2' : B2.heap.size = w.heap.size + 1 + 1 + 1 := by rw [hB2]; simp [s1]
  have s3 : B3.heap.size = w.heap.size + 1 + 1 + 1 + 1 := by rw [hB3]; simp [s2']
  have s4 : W.heap.size = w.heap.size + 1 + 4 := by rw [hW]; simp [s3]
  have b0 : Below w.heap.size w B := by rw [hB]; exact (Below.refl _ _).alloc (Nat.le_refl _) _
  have b1 : Below B.heap.size B B1 := by rw [hB1]; exact (Below.refl _ _).alloc (Nat.le_refl _) _
  have b2 : Below B1.heap.size B1 B2 := by rw [hB2]; exact (Below.refl _ _).alloc (Nat.le_refl _) _
  have b3 : Below B2.heap.size B2 B3 := by rw [hB3]; exact (Below.refl _ _).alloc (Nat.le_refl _) _
  have b4 : Below B3.heap.size B3 W := by rw [hW]; exact (Below.refl _ _).alloc (Nat.le_refl _) _
  have b34 : Below B2.heap.size B2 W := b3.trans (b4.mono b3.size)
  have b24 : Below B1.heap.size B1 W := b2.trans (b34.mono b2.size)
  have b14 : Below B.heap.size B W := b1.trans (b24.mono b1.size)
  have b04 : Below w.heap.size w W := b0.trans (b14.mono b0.size)
  obtain ⟨q, hq⟩ : ∃ q, q = w.heap.size + 1 := ⟨_, rfl⟩
  have n0 : W.heap[w.heap.size]? = some (.cells #[.int .i64 i0, .int .i64 i1, .string s2, .slice a3 l3 c3, .slice a4 l4 c4] 27 (0, 0)) := (b14.block _ (by omega)).trans (by rw [hB]; exact heap_alloc_new w _)
  have m1 : TMap B1 q 0 (fun _ => False) := by rw [hq, ← s0, hB1]; exact TMap.made B
  have m2 : TMap B2 (q + 1) 0 (fun _ => False) := by rw [hq, ← s1, hB2]; exact TMap.made B1
  have m3 : SMap B3 (q + 2) (fun _ _ => none) := by rw [show q + 2 = B2.heap.size by omega, hB3]; exact SMap.made B2
  have n3 : W.heap[q + 3]? = some (.cells #[.slice none 0 0, .map (some (q + 1)), .map (some q), .slice none 0 0, .map (some (q + 2)), .slice none 0 0] 67 (0, 0)) := by
    rw [hq, hW, show w.heap.size + 1 + 3 = B3.heap.size by omega]; exact heap_alloc_new B3 _
  have hF : Fw W W q 0 0 (.slice none 0 0) (.slice none 0 0) (.slice none 0 0) [] [] [] (fun _ _ => none) [] [] [] := ⟨Below.refl _ _, by omega, n3, ⟨rfl, .inl ⟨rfl, rfl⟩⟩, ⟨rfl, .inl ⟨rfl, rfl⟩⟩, ⟨rfl, .inl ⟨rfl, rfl⟩⟩, (m2.kept (b34.block _ (by omega))).alike (Nat.le_refl _) (fun x => by simp), (m1.kept (b24.block _ (by omega))).alike (Nat.le_refl _) (fun x => by simp), m3.kept (b4.block _ (by omega)) (fun x n v h => (by cases h)), fun x n v h => (by cases h), trivial, fun k hk => (by cases hk)⟩
  have hwk := wkF_le d x
  have hLf : Lf W q 0 0 [] (fun _ _ => none) [] [] [] (fp ++ []) (wkF d x + 0) 0 id := ⟨[], ⟨rfl, fun x hx => (by cases hx), rfl, rfl, rfl⟩, fun g => by simpa using (List.nodup_iff_count.1 hnd) g, fun g hg => by have := hlt g (by simpa using hg); omega, fun x n v h => (by cases h), by simp only [List.length_nil]; omega⟩
  have hC := come_any hF d _ x fp [] (ExO.lasts d _ _ _ _ _ hown fun g hg => b04.block g (hlt g hg)) hz w.heap.size 0 ⟨_, _, n0, fun j u hu => by rw [Nat.zero_add]; simpa using hu⟩ (by omega) 0 0 id hLf
  have HWQ : Hid (∀ (g : Nat) (cur : Array Value), (W.heap[g]? = some (.cells cur 27 (0, 0)) → g < q) ∧ (W.heap[g]? = some (.cells cur 33 (0, 0)) → g < q)) := fun g cur => by
    have key : ∀ t : TypeId, t ≠ 67 → W.heap[g]? = some (.cells cur t (0, 0)) → g < q := fun t ht hh => by
      rcases Nat.lt_or_ge g q with h | h
      · exact h
      · exfalso
        have hgl := lt_row hh
        obtain ⟨_, ⟨_, _, hm1, _⟩, _⟩ := hF.bound
        obtain ⟨_, ⟨_, _, hm2, _⟩, _⟩ := hF.told
        obtain ⟨_, _, _, hm3, _⟩ := hF.met
        have : g = q ∨ g = q + 1 ∨ g = q + 2 ∨ g = q + 3 := by omega
        rcases this with rfl | rfl | rfl | rfl
        · rw [hm1] at hh; cases hh
        · rw [hm2] at hh; cases hh
        · rw [hm3] at hh; cases hh
        · rw [n3] at hh; simp only [Option.some.injEq, Obj.cells.injEq] at hh; exact ht hh.2.1.symm
    exact ⟨key _ (by decide), key _ (by decide)⟩
  have HI : Hid (∀ V : World, (∃ nt' nv' uv' acc' fs' R' F', Fw W V q nt' 0 nv' (.slice none 0 0) uv' acc' acc' [] (fun _ _ => none) [] fs' [] ∧ Lf W q nt' 0 acc' (fun _ _ => none) fs' [] [] [] 0 R' F' ∧ R' + 6 ≤ 0 + wkF d x ∧ F' acc' = id (freeX d [] [] x)) → ∃ R, FI W q (freeX d [] [] x) V R ∧ R ≤ 20000000) := fun V ⟨nt', nv', uv', acc', fs', R', F', g1, g2, g3, g4⟩ => ⟨R', ⟨nt', 0, nv', _, uv', acc', [], _, [], fs', [], F', g1, g2, g4⟩, by omega⟩
  have HBW : Hid (Below w.heap.size w W ∧ q = w.heap.size + 1) := ⟨b04, hq⟩
  rw [hW, hB3, hB2, hB1, hB, hq] at hC
  have HWD : Hid (W = _) := hW
  have HEQ : Hid (W = ((((w.alloc (.cells #[.int .i64 i0, .int .i64 i1, .string s2, .slice a3 l3 c3, .slice a4 l4 c4] 27)).alloc (.map #[] 0)).alloc (.map #[] 0)).alloc (.map #[] 0)).alloc (.cells #[.slice none 0 0, .map (some (w.heap.size + 1 + 1)), .map (some (w.heap.size + 1)), .slice none 0 0, .map (some (w.heap.size + 1 + 1 + 1)), .slice none 0 0] 67)) := by show _ = _; rw [hW, hB3, hB2, hB1, hB]
  obtain ⟨TOT, hTOT⟩ : ∃ l, freeX d [] [] x = l := ⟨_, rfl⟩
  rw [hTOT] at HI hC ⊢
  obtain ⟨μ, hμ⟩ := least1 (FI W q TOT)
  have HMU : Hid (∀ c n, FI W q TOT c n → FI W q TOT c (μ c) ∧ μ c ≤ n) := hμ
  have hmm := @run_makeMap Try.prog
  clear hF hLf hown hnd hlt hz hwk n0 m1 m2 m3 n3 b0 b1 b2 b3 b4 b34 b24 b14 b04 hW hB3 hB2 hB1 hB s0 s1 s2' s3 s4 hTOT hμ hq HWD
  go_enter Try.func10, Try.ntmps10
  go_wp2_with fail
  refine hC.mono ?_
  clear hC hmm
  rintro e w1 ⟨rfl, HQ⟩
  have HQ2 := HQ.out
  rw [← HEQ.out, ← HBW.out.2] at HQ2
  have H0 : Hid (∃ R, FI W q TOT w1 R ∧ R ≤ 20000000) := HI.out w1 HQ2
  rw [show w.heap.size + 1 + 1 + 1 + 1 = q + 3 by have := HBW.out.2; omega]
  clear HQ HQ2 HI HEQ
  go_wp2_with fail
  go_loopw [11] (fun _ wr => Hid (∃ R, FI W q TOT wr R ∧ R ≤ 20000000)) (fun _ wr => μ wr)
  case atStart => exact H0.out
  case round =>
    obtain ⟨R0, hR0, hRb⟩ := hrel.out
    have hM := (HMU.out _ _ hR0).1
    have hM2 := (HMU.out _ _ hR0).2
    obtain ⟨R, hRe⟩ : ∃ R, μ wr = R := ⟨_, rfl⟩
    rw [hRe] at hM hM2
    have HWE : Hid (μ wr = R ∧ R ≤ 20000000) := ⟨hRe, by omega⟩
    clear H0 hrel hR0 hRe hM2 hRb
    obtain ⟨nt, nb, nv, sv, uv, acc, cb, f, ss, fs, K, F, hFw, hLf, hV⟩ := hM
    obtain ⟨c0, _, _, _, _, c5, _⟩ := hFw.cells
    obtain ⟨⟨na, nc, rfl⟩, _, ⟨ua, uc, rfl⟩⟩ := hFw.few
    cases fs with
    | nil =>
      have hacc : acc = TOT := by
        obtain ⟨rs, ⟨_, _, _, _, rfl⟩, _⟩ := hLf
        exact hV
      have HFN : Hid (StrRow wr w.heap.size (.slice na acc.length nc) TOT ∧ Below w.heap.size w wr) := by
        have hb := HBW.out
        refine ⟨by rw [← hacc]; exact row_low hFw.names (by omega), hb.1.trans (hFw.bel.mono (by omega))⟩
      obtain ⟨nl, hnl⟩ : ∃ n, acc.length = n := ⟨_, rfl⟩
      rw [hnl] at c0 HFN
      clear hFw hLf hV hacc hnl
      go_wp2_with fail
      go_ret
      exact ⟨_, rfl, HFN.out.1, HFN.out.2⟩
    | cons fr fs =>
      have hC := goOn_any hFw hLf HWQ.out
      rw [hV] at hC
      have hfl : fs.length + 1 ≤ 20000000 := by obtain ⟨rs, h1, _, _, _, h5⟩ := hLf; have := h1.few; simp only [List.length_cons] at this; omega
      obtain ⟨ul, hul⟩ : ∃ n, fs.length = n := ⟨_, rfl⟩
      rw [List.length_cons, hul] at c5
      rw [hul] at hfl
      clear hFw hLf hV hul c0
      go_wp2_with fail
      refine hC.mono ?_
      clear hC c5
      rintro _ w2 ⟨rfl, HP⟩
      have HNX : Hid (∃ R', FI W q TOT w2 R' ∧ R' < R) := by
        obtain ⟨nt', nb', nv', sv', uv', acc', cb', f', ss', fs', K', R', F', g1, g2, g3, g4⟩ := HP.out
        exact ⟨R', ⟨nt', nb', nv', sv', uv', acc', cb', f', ss', fs', K', F', g1, g2, g4⟩, g3⟩
      clear HP
      go_wp2_with fail
      go_roundw
      case rel =>
        obtain ⟨R', q1, q2⟩ := HNX.out
        exact ⟨R', q1, by have := HWE.out.2; omega⟩
      case measure =>
        obtain ⟨R', q1, q2⟩ := HNX.out
        have h1 := (HMU.out _ _ q1).2
        have h2 := HWE.out.1
        omega

end Go.Proofs.Ytpokheklplcamaa
