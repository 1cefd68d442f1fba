/- The program's names of an expression: the walk. -/
import Derived.Test.YtpokheklplcamaaNm0M
import Derived.Test.YtpokheklplcamaaShelf
import Derived.Test.YtpokheklplcamaaTmM
import Derived.Test.YtpokheklplcamaaMOf4M
import Derived.Deep.DeepCutAuto
import Derived.Deep.CutRange
import Derived.BigQuiet
namespace Go.Proofs.Ytpokheklplcamaa
open Go.RowKit
set_option linter.unusedVariables false

theorem cloneT_any (s : ByteArray) (w : World) (hlim : s.size ≤ 281474976710656) :
    Calls Try.prog 76 #[.string s] w fun e w' => e = .returned (.string s) ∧ Below w.heap.size w w' := by
  have hL := Try.stringslite_Clone s w hlim
  go_enter Try.func76, Try.ntmps76
  go_wp2_with fail
  refine hL.mono ?_
  clear hL
  rintro e w' ⟨rfl, hb⟩
  go_wp2_with fail
  go_ret
  exact ⟨rfl, hb⟩

theorem StrRow.low {w : World} {B B' : Nat} {v : Value} {l : List ByteArray} (h : StrRow w B v l) (hB : B' ≤ B) : StrRow w B' v l := by
  refine ⟨h.1, ?_⟩
  rcases h.2 with h | ⟨g', c', cur, q1, q2, q3⟩
  · exact .inl h
  · exact .inr ⟨g', c', cur, q1, by omega, q3⟩

theorem three_cells (w : World) (a b c : Value) (t : TypeId) : ∀ j u, [a, b, c][j]? = some u → (w.alloc (.cells #[a, b, c] t)).cell? ((⟨w.heap.size, 0, none⟩ : Addr).add j) = some u := by
  intro j u hj
  match j, hj with
  | 0, hj => simp at hj; subst hj; simp [Addr.add]
  | 1, hj => simp at hj; subst hj; simp [Addr.add]
  | 2, hj => simp at hj; subst hj; simp [Addr.add]

/-- How the walk for names stands, and what is left to do. -/
def NWalk (W wr : World) (M : Nat) (tot : List ByteArray) (names under : Value) (R : Nat) : Prop := ∃ fs f rem acc rst, Phys W wr M names under fs f acc ∧ Logic W M tot fs R f rem acc rst

theorem nstart (d : Nat) (vs : List Value) (e : Ex d) (fp : List Nat) (w W wr : World) (box : Obj) (hown : ExO d w vs e fp) (hnd : fp.Nodup) (hlt : ∀ g ∈ fp, g < w.heap.size) (hz : szX d e ≤ 1048576)
    (hW : W = ((w.alloc box).alloc (.map #[] 0)).alloc (.cells vs.toArray 27)) (hwr : wr = W.alloc (.cells #[.slice (some ⟨w.heap.size + 1 + 1, 0, none⟩) 1 1, .int .i64 0, .int .i64 0] 123)) :
    W.heap.size = w.heap.size + 1 + 1 + 1 ∧ Below w.heap.size w W ∧ NWalk W wr (w.heap.size + 1) (vars d e) (.slice none 0 0) (.slice (some ⟨w.heap.size + 1 + 1 + 1, 0, none⟩) 1 1) (wkX d e + 1) := by
  obtain ⟨nA, nB, nC⟩ := heap_three w box (.map #[] 0) (.cells vs.toArray 27)
  rw [← hW] at nA nB nC
  have hWs : W.heap.size = w.heap.size + 1 + 1 + 1 := by rw [hW]; simp
  have hWb : Below w.heap.size w W := by rw [hW]; exact (((Below.refl _ _).alloc (Nat.le_refl _) _).alloc (by simp) _).alloc (by simp; omega) _
  have hb : Below W.heap.size W wr := by rw [hwr]; exact (Below.refl _ _).alloc (Nat.le_refl _) _
  have nU : wr.heap[w.heap.size + 1 + 1 + 1]? = some (.cells #[.slice (some ⟨w.heap.size + 1 + 1, 0, none⟩) 1 1, .int .i64 0, .int .i64 0] 123 (0, 0)) := by rw [hwr, ← hWs]; exact heap_alloc_new W _
  have hM : SMap wr (w.heap.size + 1) fun _ _ => none := ⟨#[], 0, [], (hb.block _ (by omega)).trans nB, rfl, (fun q (h : q ∈ []) => absurd h List.not_mem_nil), fun _ _ => rfl⟩
  have hvl := vars_len d e
  refine ⟨hWs, hWb, [(.slice (some ⟨w.heap.size + 1 + 1, 0, none⟩) 1 1, 0, 0)], fun _ _ => none, fp, [], vars d e, ⟨Kept.of_below hb, hM, ⟨rfl, .inl ⟨rfl, rfl⟩⟩, ⟨rfl, .inr ⟨_, 1, _, rfl, by omega, nU, Nat.le_refl _, by unfold maxLen; omega, rfl, rfl⟩⟩, fun g h => (by cases h), fun x n v h => (by cases h), by omega⟩, ⟨fun x n v h => (by cases h), ?_, hnd, rfl, fun g hg => by have := hlt g hg; omega, fun fr hfr g hg hm => ?_, by omega⟩⟩
  · refine ⟨fp, wkX d e, vars d e, [], 0, [], ⟨d, [e], _, 1, vs.toArray, [fp], rfl, by simp, by simp, nC, by omega, rfl, fun i x hx => ?_, Nat.zero_le _, by simp, by simp, by simp⟩, ⟨rfl, rfl, rfl⟩, by simp, rfl, by simp, by omega⟩
    cases i with
    | zero =>
      simp only [List.getElem?_cons_zero, Option.some.injEq] at hx
      subst hx
      have hl5 : vs.length = 5 := by obtain ⟨_, _, _, _, _, _, _, _, _, rfl⟩ := ExO.shape d w vs e fp hown; rfl
      refine ⟨vs, fp, rfl, hl5, fun j u hu => ?_, ExO.lasts d _ _ _ _ _ hown fun g hg => hWb.block g (hlt g hg), hz⟩
      rw [Nat.zero_mul, Nat.zero_add]
      simpa using hu
    | succ i => simp at hx
  · simp only [List.mem_singleton] at hfr
    subst hfr
    simp only [Value.ownBlock, Option.some.injEq] at hg
    have := hlt g hm
    omega

set_option maxRecDepth 100000 in
set_option maxHeartbeats 4000000 in
theorem namesIn_any (d : Nat) (vs : List Value) (e : Ex d) (fp : List Nat) (most : Int) (w : World) (hown : ExO d w vs e fp) (hnd : fp.Nodup) (hlt : ∀ g ∈ fp, g < w.heap.size) (hz : szX d e ≤ 1048576) :
    Calls Try.prog 41 #[.agg vs.toArray, .int .i64 most] w fun r w' => ∃ v, r = .returned v ∧ Hid (StrRow w' w.heap.size v (vars d e)) ∧ Below w.heap.size w w' := by
  obtain ⟨i0, i1, s2, a3, l3, c3, a4, l4, c4, rfl⟩ := ExO.shape d w vs e fp hown
  obtain ⟨W, hW⟩ : ∃ W, W = ((w.alloc (Obj.cells #[.int .i64 i0, .int .i64 i1, .string s2, .slice a3 l3 c3, .slice a4 l4 c4] 27)).alloc (.map #[] 0)).alloc (.cells #[.int .i64 i0, .int .i64 i1, .string s2, .slice a3 l3 c3, .slice a4 l4 c4] 27) := ⟨_, rfl⟩
  obtain ⟨wr0, hwr0⟩ : ∃ wr, wr = W.alloc (.cells #[.slice (some ⟨w.heap.size + 1 + 1, 0, none⟩) 1 1, .int .i64 0, .int .i64 0] 123) := ⟨_, rfl⟩
  obtain ⟨hWs, hWb, hst⟩ := nstart d _ e fp w W wr0 _ hown hnd hlt hz hW hwr0
  have HWB : Hid (Below w.heap.size w W) := hWb
  have HSZ : Hid (szX d e ≤ 1048576) := hz
  have ewr : wr0 = (((w.alloc (Obj.cells #[.int .i64 i0, .int .i64 i1, .string s2, .slice a3 l3 c3, .slice a4 l4 c4] 27)).alloc (.map #[] 0)).alloc (.cells #[.int .i64 i0, .int .i64 i1, .string s2, .slice a3 l3 c3, .slice a4 l4 c4] 27)).alloc (.cells #[.slice (some ⟨w.heap.size + 1 + 1, 0, none⟩) 1 1, .int .i64 0, .int .i64 0] 123) := by rw [hwr0, hW]
  rw [ewr] at hst
  have H0 : Hid (NWalk W _ _ _ _ _ _) := hst
  obtain ⟨tot, htot⟩ : ∃ t, vars d e = t := ⟨_, rfl⟩
  rw [htot] at H0 ⊢
  obtain ⟨μ', hμ'⟩ := least_work (fun a b c m => NWalk W c (w.heap.size + 1) tot a b m)
  obtain ⟨μ, hμe⟩ : ∃ μ : Value → Value → World → Nat, μ = μ' := ⟨_, rfl⟩
  have HMU : Hid (∀ a b c m, NWalk W c (w.heap.size + 1) tot a b m → NWalk W c (w.heap.size + 1) tot a b (μ a b c) ∧ μ a b c ≤ m) := fun a b c m h => by rw [hμe]; exact hμ' a b c m h
  clear hμ' hμe hst hown hnd hlt hz hwr0 hWb ewr
  have hmm := @run_makeMap Try.prog
  have HWK : Hid (wkX d e + 1 ≤ 4194304) := by have := wkX_le d e; show _ ≤ _; have := HSZ.out; omega
  have hmm := @run_makeMap Try.prog
  have HWK : Hid (wkX d e + 1 ≤ 4194304) := by have := wkX_le d e; show _ ≤ _; have := HSZ.out; omega
  have hmm := @run_makeMap Try.prog
  have HWK : Hid (wkX d e + 1 ≤ 4194304) := by have := wkX_le d e; show _ ≤ _; have := HSZ.out; omega
  have hmm := @run_makeMap Try.prog
  have HWK : Hid (wkX d e + 1 ≤ 4194304) := by have := wkX_le d e; show _ ≤ _; have := HSZ.out; omega
  have hmm := @run_makeMap Try.prog
  have HWK : Hid (wkX d e + 1 ≤ 4194304) := by have := wkX_le d e; show _ ≤ _; have := HSZ.out; omega
  have hmm := @run_makeMap Try.prog
  have HWK : Hid (wkX d e + 1 ≤ 4194304) := by have := wkX_le d e; show _ ≤ _; have := HSZ.out; omega
  have hmm := @run_makeMap Try.prog
  have HWK : Hid (wkX d e + 1 ≤ 4194304) := by have := wkX_le d e; show _ ≤ _; have := HSZ.out; omega
  have hmm := @run_makeMap Try.prog
  have HWK : Hid (wkX d e + 1 ≤ 4194304) := by have := wkX_le d e; show _ ≤ _; have := HSZ.out; omega
  go_enter Try.func41, Try.ntmps41
  go_wp2_with fail
  go_loopw [5, 7] (fun names under wr => Hid (∃ R, NWalk W wr (w.heap.size + 1) tot names under R ∧ R ≤ 4194304)) (fun names under wr => μ names under wr)
  case atStart => exact ⟨_, H0.out, HWK.out⟩
  case round =>
    obtain ⟨R0, hR0, hRb⟩ := hrel.out
    have hM := (HMU.out _ _ _ _ hR0).1
    have hM2 := (HMU.out _ _ _ _ hR0).2
    obtain ⟨R, hRe⟩ : ∃ R, μ u5 u7 wr = R := ⟨_, rfl⟩
    rw [hRe] at hM hM2
    have hRR : R ≤ 4194304 := by omega
    have HWE : Hid (μ u5 u7 wr = R) := hRe
    clear H0 hrel hR0 hRe hmm hM2 hRb
    obtain ⟨fs, f, rem, acc, rst, hP, hL⟩ := hM
    obtain ⟨na, nl, nc, rfl⟩ := row_slice hP.row
    have hnl : nl = acc.length := by
      rcases hP.row.2 with ⟨e, h0⟩ | ⟨_, _, _, e, _⟩
      · simp only [Value.slice.injEq] at e; omega
      · simp only [Value.slice.injEq] at e; omega
    have HNLL : Hid (nl = acc.length) := hnl
    have hal : acc.length ≤ 1048577 := by have q1 := congrArg List.length hL.sum; have q2 := hL.less; rw [List.length_append] at q1; omega
    have hnlb : nl ≤ 1048577 := by omega
    clear hnl hal
    cases fs with
    | nil =>
      have hacc := hL.fin
      have HFN : Hid (StrRow wr w.heap.size (.slice na nl nc) tot ∧ Below w.heap.size w wr) := by
        refine ⟨by rw [← hacc]; exact hP.row.low (by omega), ?_⟩
        have hk := hP.kept
        have hb := HWB.out
        exact ⟨hk.os.trans hb.os, hk.tape.trans hb.tape, hk.output.trans hb.output, Nat.le_trans hb.size hk.size, fun g hg => (hk.block g (by omega) (by omega)).trans (hb.block g hg)⟩
      obtain ⟨ua, uc, rfl⟩ : ∃ ua uc, u7 = .slice ua 0 uc := by
        rcases hP.und.2 with ⟨e, _⟩ | ⟨g, c, cur, e1, _⟩
        · exact ⟨_, _, e⟩
        · exact ⟨_, _, e1⟩
      clear hP hL hacc
      go_wp2_with fail
      go_ret
      exact ⟨_, rfl, HFN.out.1, HFN.out.2⟩
    | cons top rest =>
      obtain ⟨v, nx, ah⟩ := top
      have hfew := hL.stk.few
      obtain ⟨g, len, c, cur, rfl, hnx, hlen0, hlen1, hcur, hgM⟩ : ∃ g len c cur, v = .slice (some ⟨g, 0, none⟩) len c ∧ nx ≤ len ∧ 0 < len ∧ len ≤ 1048576 ∧ W.heap[g]? = some (.cells cur 27 (0, 0)) ∧ g ≠ w.heap.size + 1 := by
        obtain ⟨r1, R1, n1, r2, R2, n2, h1, _⟩ := hL.stk
        exact h1.slice
      have hah : ah ≤ 2097152 := by obtain ⟨r1, R1, n1, r2, R2, n2, _, _, _, _, _, h⟩ := hL.stk; exact h
      obtain ⟨u, cap, curu, rfl, hu0, hu, hcap, _, hu3, _, k0, k1, k2⟩ := nrow_top hP.und
      have t0 : wr.cell? ⟨u, rest.length * 3, none⟩ = some (.slice (some ⟨g, 0, none⟩) len c) := by rw [cell_of_row wr _ _ _ _ _ hu]; exact k0
      have t1 : wr.cell? ⟨u, rest.length * 3 + 1, none⟩ = some (.int .i64 (nx : Nat)) := by rw [cell_of_row wr _ _ _ _ _ hu]; exact k1
      have t2 : wr.cell? ⟨u, rest.length * 3 + 2, none⟩ = some (.int .i64 (ah : Nat)) := by rw [cell_of_row wr _ _ _ _ _ hu]; exact k2
      have HUU : Hid (wr.heap[u]? = some (.cells curu 123 (0, 0))) := hu
      have HP : Hid (Phys W wr (w.heap.size + 1) (.slice na nl nc) (.slice (some ⟨u, 0, none⟩) (rest.length + 1) cap) ((.slice (some ⟨g, 0, none⟩) len c, nx, ah) :: rest) f acc) := hP
      have HLG : Hid (Logic W (w.heap.size + 1) tot ((.slice (some ⟨g, 0, none⟩) len c, nx, ah) :: rest) R f rem acc rst) := hL
      have HCG : Hid (W.heap[g]? = some (.cells cur 27 (0, 0)) ∧ g ≠ w.heap.size + 1) := ⟨hcur, hgM⟩
      obtain ⟨m, hm⟩ : ∃ m, rest.length = m := ⟨_, rfl⟩
      have HL : Hid (rest.length = m) := hm
      have hmb : m ≤ 4194304 := by simp only [List.length_cons] at hfew; omega
      rw [hm] at t0 t1 t2 hcap ⊢
      have hgz := lt_row hu
      clear hP hL hu hu3 k0 k1 k2 hfew hcur hm
      by_cases hlt : nx < len
      · have hne : ((nx : Int) == (len : Int)) = false := by simp; omega
        go_wp2_with fail
        go_cut [34] (fun v wx => v = .bool false ∧ Below wr.heap.size wr wx)
        case first =>
          go_quiet (fail)
          go_wp2_with fail
          go_meet
          case rel => exact ⟨rfl, below_drewN (Below.refl _ _) _⟩
        case rest =>
          obtain ⟨rfl, hbc⟩ := hcut
          obtain ⟨w1, hw1⟩ : ∃ w1, w1 = wc := ⟨_, rfl⟩
          subst hw1
          have t0' := cell_later hbc t0
          have t1' := cell_later hbc t1
          have hi1 : (nx : Int) < (len : Int) := by omega
          have HBC : Hid (Below wr.heap.size wr w1) := hbc
          go_wp2_with fail
          go_cut [9] (fun v wx => v = .pointer (some ⟨g, nx * 5, none⟩) ∧ Below w1.heap.size w1 wx)
          case first =>
            go_quiet (fail)
            go_wp2_with fail
            go_meet
            case rel => exact ⟨rfl, below_drewN (Below.refl _ _) _⟩
          case rest =>
            obtain ⟨rfl, hbd⟩ := hcut
            obtain ⟨w2, hw2⟩ : ∃ w2, w2 = wc := ⟨_, rfl⟩
            subst hw2
            have hbe : Below wr.heap.size wr w2 := HBC.out.trans (hbd.mono HBC.out.size)
            have hu2 := (hbe.block u hgz).trans HUU.out
            have t1c := cell_later hbe t1
            have y1 : w2.frozen? ⟨u, m * 3 + 1, none⟩ = false := frozen_of_row w2 _ _ _ _ hu2
            obtain ⟨X0, hX0⟩ : ∃ X, X = w2.setCell ⟨u, m * 3 + 1, none⟩ (.int .i64 (↑nx + 1)) := ⟨_, rfl⟩
            have hPX0 : Phys W X0 (w.heap.size + 1) (.slice na nl nc) (.slice (some ⟨u, 0, none⟩) (m + 1) cap) ((.slice (some ⟨g, 0, none⟩) len c, nx + 1, ah) :: rest) f acc := by
              have := (HP.out.later hbe).turn
              rw [HL.out] at this
              rw [hX0]; exact this
            obtain ⟨k, n, s, a3, l3, c3, v4, cur2, hc0, q0, q1, q2, q3, q4, hs, hl3b, hlen2, hL0, hL1⟩ := HLG.out.next hlt
            obtain rfl : cur2 = cur := by have := HCG.out.1.symm.trans hc0; simpa using this.symm
            have HK5 : Hid (cur2[nx * 5]? = some (.int .i64 k) ∧ cur2[nx * 5 + 2]? = some (.string s) ∧ cur2[nx * 5 + 3]? = some (.slice a3 l3 c3)) := ⟨q0, q2, q3⟩
            have HL0 : Hid (l3 = 0 → _) := hL0
            have HL1 : Hid (0 < l3 → _) := hL1
            have HX0 : Hid (X0 = _) := hX0
            have e0 : X0.cell? ⟨g, nx * 5, none⟩ = some (.int .i64 k) := by rw [cell_of_row X0 _ _ _ _ _ (hPX0.at HCG.out.1 HCG.out.2)]; exact HK5.out.1
            have e2 : X0.cell? ⟨g, nx * 5 + 2, none⟩ = some (.string s) := by rw [cell_of_row X0 _ _ _ _ _ (hPX0.at HCG.out.1 HCG.out.2)]; exact HK5.out.2.1
            rw [hX0] at e0 e2
            have HPX0 : Hid (Phys W X0 (w.heap.size + 1) (.slice na nl nc) (.slice (some ⟨u, 0, none⟩) (m + 1) cap) ((.slice (some ⟨g, 0, none⟩) len c, nx + 1, ah) :: rest) f acc) := hPX0
            have hsm : s.size ≤ 281474976710656 := by omega
            have hon1 := ownName_len k s
            clear hc0 q0 q1 q2 q3 q4 hL0 hL1 hPX0 hX0 HP HLG hbe hu2 t0 t1 t2 t0' t1' hbc hbd HBC HUU
            by_cases hk : k = 3
            · subst hk
              by_cases hS : s = ⟨#[95]⟩
              · have hon : Hid (ownName 3 s = []) := by show _ = _; unfold ownName; rw [if_neg]; exact fun h => h.2 hS
                have hne2 : (s.toList == [95]) = true := by rw [bytes_is (A := ⟨#[95]⟩) (by rw [ByteArray.toList_eq])]; simpa using hS
                clear hS
                have HPX : Hid (Phys W (w2.setCell ⟨u, m * 3 + 1, none⟩ (.int .i64 (↑nx + 1))) (w.heap.size + 1) (.slice na nl nc) (.slice (some ⟨u, 0, none⟩) (m + 1) cap) ((.slice (some ⟨g, 0, none⟩) len c, nx + 1, ah) :: rest) f (acc ++ ownName 3 s)) := by
                  rw [hon.out, List.append_nil, ← HX0.out]; exact HPX0.out
                have HXL : Hid (nl = (acc ++ ownName 3 s).length) := by rw [hon.out, List.append_nil]; exact HNLL.out
                clear HPX0 HX0
                have f3b : (w2.setCell ⟨u, m * 3 + 1, none⟩ (.int .i64 (↑nx + 1))).cell? ⟨g, nx * 5 + 3, none⟩ = some (.slice a3 l3 c3) := by rw [cell_of_row (w2.setCell ⟨u, m * 3 + 1, none⟩ (.int .i64 (↑nx + 1))) _ _ _ _ _ (HPX.out.at HCG.out.1 HCG.out.2)]; exact HK5.out.2.2
                by_cases h0 : l3 = 0
                · subst h0
                  obtain ⟨R', rem', rst', hR', hL'⟩ := HL0.out rfl
                  have HW' : Hid (NWalk W (w2.setCell ⟨u, m * 3 + 1, none⟩ (.int .i64 (↑nx + 1))) (w.heap.size + 1) tot (.slice na nl nc) (.slice (some ⟨u, 0, none⟩) (m + 1) cap) R' ∧ R' < R) := ⟨⟨_, _, _, _, _, HPX.out, hL'⟩, hR'⟩
                  clear hL' HL0 HL1
                  go_wp2_with fail
                  go_roundw
                  case rel => exact ⟨_, HW'.out.1, by have := HW'.out.2; omega⟩
                  case measure =>
                    have q1 := (HMU.out _ _ _ _ HW'.out.1).2
                    have q2 := HWE.out
                    have q3 := HW'.out.2
                    rw [HL.out] at q2
                    omega
                · have hl3 : 0 < l3 := by omega
                  obtain ⟨g', cur', rfl, hg', hgM', hfn, hR0, hLL⟩ := HL1.out hl3
                  have HG' : Hid (W.heap[g']? = some (.cells cur' 27 (0, 0)) ∧ g' ≠ w.heap.size + 1) := ⟨hg', hgM'⟩
                  have HFN : Hid (∀ q, f ⟨g', 0, none⟩ q = none) := hfn
                  have HLL : Hid (∀ val, ∃ rem' rst', Logic W (w.heap.size + 1) tot ((.slice (some ⟨g', 0, none⟩) l3 c3, 0, (acc ++ ownName 3 s).length) :: (.slice (some ⟨g, 0, none⟩) len c, nx + 1, ah) :: rest) (R - 1) (upd f ⟨g', 0, none⟩ l3 val) rem' (acc ++ ownName 3 s) rst') := hLL
                  have hne0 : ((l3 : Int) == 0) = false := by simp; omega
                  have HSP : Hid (∀ V : World, _) := fun V => spotOfX_any g' 0 l3 c3 V hl3 (by omega)
                  have HRP : Hid (0 < R) := hR0
                  have hzs : ∀ W : World, (zeroValue 127).run Try.prog W = .ok (.agg #[.int .i64 0, .int .i64 0]) W := fun W => Try.zeroValue127 W
                  clear hg' hgM' hfn hLL HL0 HL1 hR0
                  go_wp2_with fail
                  refine (HSP.out _).mono ?_
                  rintro _ X1 ⟨rfl, hb1⟩
                  have HP1 : Hid (Phys W X1 (w.heap.size + 1) (.slice na nl nc) (.slice (some ⟨u, 0, none⟩) (m + 1) cap) _ f _) := HPX.out.later hb1
                  have f3c := cell_later hb1 f3b
                  have HF3 : Hid (X1.cell? ⟨g, nx * 5 + 3, none⟩ = some (.slice (some ⟨g', 0, none⟩) l3 c3)) := f3c
                  have hM1 := HP1.out.map
                  have hgx1 : g < X1.heap.size := lt_row (HP1.out.at HCG.out.1 HCG.out.2)
                  have hp1 : Plain X1 ⟨g', 0, none⟩ := ⟨_, _, HP1.out.at HG'.out.1 HG'.out.2⟩
                  have hfz := HFN.out (l3 : Int)
                  clear hb1 HPX f3b
                  go_wp2_with (at_lookup; refine wpList_look_spot _ rfl _ _ 121 rfl 113 127 spotExpr Try.underlying121 (hzs _) (w.heap.size + 1) f rfl hM1 _ _ rfl hp1 ?_; rw [hfz])
                  obtain ⟨X2, hX2⟩ : ∃ X2, X2 = X1.alloc (.cells #[.int .i64 0, .int .i64 0] 127) := ⟨_, rfl⟩
                  rw [← hX2]
                  have hb2 : Below X1.heap.size X1 X2 := by rw [hX2]; exact (Below.refl _ _).alloc (Nat.le_refl _) _
                  refine (HSP.out _).mono ?_
                  rintro _ X3 ⟨rfl, hb3⟩
                  have hb23 : Below X1.heap.size X1 X3 := hb2.trans (hb3.mono hb2.size)
                  have HP3 : Hid (Phys W X3 (w.heap.size + 1) (.slice na nl nc) (.slice (some ⟨u, 0, none⟩) (m + 1) cap) _ f _) := HP1.out.later hb23
                  obtain ⟨w6, hrun6, hS6, hT6⟩ := HP3.out.map.store spotExpr Try.underlying121 (x := ⟨g', 0, none⟩) (n := l3) ⟨_, _, HP3.out.at HG'.out.1 HG'.out.2⟩ (.agg #[.int .i64 0, .int .i64 0])
                  have HP6 : Hid (Phys W w6 (w.heap.size + 1) (.slice na nl nc) (.slice (some ⟨u, 0, none⟩) (m + 1) cap) _ (upd f ⟨g', 0, none⟩ l3 (.agg #[.int .i64 0, .int .i64 0])) _) := HP3.out.store hT6 hS6 (fun x q v hv => by
                    unfold upd at hv
                    by_cases e : x = ⟨g', 0, none⟩ ∧ q = (l3 : Int)
                    · rw [e.1]; exact ⟨lt_row HG'.out.1, HG'.out.2⟩
                    · rw [if_neg e] at hv; exact HP3.out.keys x q v hv)
                  have f36 : w6.cell? ⟨g, nx * 5 + 3, none⟩ = some (.slice (some ⟨g', 0, none⟩) l3 c3) := by rw [cell_of_row w6 _ _ _ _ _ (HP6.out.at HCG.out.1 HCG.out.2)]; exact HK5.out.2.2
                  have hgx6 : g < w6.heap.size := lt_row (HP6.out.at HCG.out.1 HCG.out.2)
                  have hrow6 := HP6.out.und
                  simp only [List.length_cons, HL.out] at hrow6
                  have HROW : Hid (w6.ownsRow W.heap.size 123 3 (.slice (some ⟨u, 0, none⟩) (m + 1) cap) (m + 1) _) := hrow6
                  have hW6 := HP6.out.kept.size
                  have hrun6' : (Instr.mapUpdate 121 (.map (some (w.heap.size + 1))) (.agg #[.pointer (some ⟨g', 0, none⟩), .int .i64 l3]) (.agg #[.int .i64 0, .int .i64 0])).run Try.prog X3 = .ok () w6 := hrun6
                  clear hb2 hb3 hb23 hX2 hM1 hp1 hfz f3c HF3 hS6 hT6 hrow6 HP1 HP3 hrun6
                  obtain ⟨j0, hj, hj0, hj1, hj2⟩ := info_parts Try.infoNaming
                  go_wp2_with (at_builtin; refine wpList_append_own_at _ rfl _ _ 124 rfl W.heap.size 123 j0 (.agg #[.slice none 0 0, .int .i64 0, .int .i64 0]) 3 40 Try.underlying124 hj hj0 hj1 hj2 rfl (by decide) _ _ _ rfl (HROW.out.alloc _) ⟨w6.heap.size, 0, none⟩ 1 1 [.slice (some ⟨g', 0, none⟩) l3 c3, .int .i64 0, .int .i64 nl] rfl rfl (three_cells w6 _ _ _ _) (by intro u hu; simp at hu; rcases hu with rfl | rfl | rfl <;> rfl) (by unfold maxLen; omega) (by omega) (by simp; omega) ?_; intro v' w7 hown7 hgrow7 _ hat7)
                  have HP7 : Hid (Phys W w7 (w.heap.size + 1) (.slice na nl nc) v' ((.slice (some ⟨g', 0, none⟩) l3 c3, 0, (acc ++ ownName 3 s).length) :: _) _ _) := (HP6.out.later ((Below.refl _ _).alloc (Nat.le_refl _) _)).push (by simp only [List.length_cons, HL.out]; rw [← HXL.out]; exact hown7) hgrow7 hat7
                  clear hown7 hgrow7 hat7
                  go_wp2_with fail
                  go_roundw
                  case rel =>
                    obtain ⟨rem', rst', hL'⟩ := HLL.out (.agg #[.int .i64 0, .int .i64 0])
                    exact ⟨R - 1, ⟨_, _, _, _, _, HP7.out, hL'⟩, by omega⟩
                  case measure =>
                    obtain ⟨rem', rst', hL'⟩ := HLL.out (.agg #[.int .i64 0, .int .i64 0])
                    have q1 := (HMU.out _ _ _ _ ⟨_, _, _, _, _, HP7.out, hL'⟩).2
                    have q2 := HWE.out
                    have q3 := HRP.out
                    rw [HL.out] at q2
                    omega
              · have hon : Hid (ownName 3 s = [s]) := by show _ = _; unfold ownName; rw [if_pos ⟨rfl, hS⟩]
                have hne2 : (s.toList == [95]) = false := by rw [bytes_is (A := ⟨#[95]⟩) (by rw [ByteArray.toList_eq])]; simpa using hS
                clear hS
                by_cases h0 : l3 = 0
                · subst h0
                  obtain ⟨R', rem', rst', hR', hL'⟩ := HL0.out rfl
                  have HL' : Hid (_ ∧ R' < R) := ⟨hL', hR'⟩
                  clear hL' hR' HL0 HL1
                  have HCLN : Hid (∀ V : World, _) := fun V => cloneT_any s V hsm
                  obtain ⟨s0, hs0, hs1, hs2, hs3⟩ := info_parts Try.infoStr
                  go_wp2_with fail
                  rw [← HX0.out]
                  refine (HCLN.out _).mono ?_
                  rintro _ X4 ⟨rfl, hb4⟩
                  have HP4 : Hid (Phys W X4 (w.heap.size + 1) (.slice na nl nc) (.slice (some ⟨u, 0, none⟩) (m + 1) cap) ((.slice (some ⟨g, 0, none⟩) len c, nx + 1, ah) :: rest) f acc) := HPX0.out.later hb4
                  have hrw4 := HP4.out.row
                  have HRW4 : Hid (X4.ownsRow W.heap.size 9 1 (.slice na nl nc) acc.length (acc.map Value.string)) := hrw4
                  have hz4 := HP4.out.kept.size
                  have hal2 : acc.length ≤ 1048577 := by have := HNLL.out; omega
                  clear hb4 e0 e2 HX0 hrw4 HPX0 t1c y1
                  go_wp2_with (at_builtin;  (refine wpList_append_own_at _ rfl _ _ 29 rfl W.heap.size 9 s0 (.string ⟨#[]⟩) 1 16 Try.underlying29 hs0 hs1 hs2 hs3 rfl (by decide) _ _ _ rfl (HRW4.out.alloc _) ⟨X4.heap.size, 0, none⟩ 1 1 ([s].map Value.string) rfl rfl (new_one (.string s) 9 rfl) (by intro u hu; simp at hu; subst hu; rfl) (by unfold maxLen; omega) (by omega) (by simp <;> omega) ?_; intro v' X hown5 hgrow5 _ hat5; obtain ⟨xa, xl, xc, rfl⟩ := row_slice hown5; have HPX : Hid (Phys W X (w.heap.size + 1) (.slice xa xl xc) (.slice (some ⟨u, 0, none⟩) (m + 1) cap) ((.slice (some ⟨g, 0, none⟩) len c, nx + 1, ah) :: rest) f (acc ++ ownName 3 s)) := (by rw [hon.out]; exact (HP4.out.later ((Below.refl _ _).alloc (Nat.le_refl _) _)).app (m := [s]) hown5 hgrow5 hat5); have f3b : X.cell? ⟨g, nx * 5 + 3, none⟩ = some (.slice a3 0 c3) := (by rw [cell_of_row X _ _ _ _ _ (HPX.out.at HCG.out.1 HCG.out.2)]; exact HK5.out.2.2); clear hown5 hgrow5 hat5 HP4 HRW4))
                  have HXL : Hid (xl = (acc ++ ownName 3 s).length) := by
                    rcases HPX.out.row.2 with ⟨e, h0⟩ | ⟨_, _, _, e, _⟩
                    · simp only [Value.slice.injEq] at e; show _ = _; omega
                    · simp only [Value.slice.injEq] at e; show _ = _; omega
                  have hxlb : xl ≤ 1048577 := by rw [HXL.out]; exact hlen2
                  have hgx : g < X.heap.size := lt_row (HPX.out.at HCG.out.1 HCG.out.2)
                  go_roundw
                  case rel => exact ⟨R', ⟨_, _, _, _, _, HPX.out, HL'.out.1⟩, by have := HL'.out.2; omega⟩
                  case measure =>
                    have q1 := (HMU.out _ _ _ _ ⟨_, _, _, _, _, HPX.out, HL'.out.1⟩).2
                    have q2 := HWE.out
                    have q3 := HL'.out.2
                    rw [HL.out] at q2
                    omega
                · have hl3 : 0 < l3 := by omega
                  obtain ⟨g', cur', rfl, hg', hgM', hfn, hR0, hLL⟩ := HL1.out hl3
                  have HG' : Hid (W.heap[g']? = some (.cells cur' 27 (0, 0)) ∧ g' ≠ w.heap.size + 1) := ⟨hg', hgM'⟩
                  have HFN : Hid (∀ q, f ⟨g', 0, none⟩ q = none) := hfn
                  have HLL : Hid (∀ val, ∃ rem' rst', Logic W (w.heap.size + 1) tot ((.slice (some ⟨g', 0, none⟩) l3 c3, 0, (acc ++ ownName 3 s).length) :: (.slice (some ⟨g, 0, none⟩) len c, nx + 1, ah) :: rest) (R - 1) (upd f ⟨g', 0, none⟩ l3 val) rem' (acc ++ ownName 3 s) rst') := hLL
                  have hne0 : ((l3 : Int) == 0) = false := by simp; omega
                  have HSP : Hid (∀ V : World, _) := fun V => spotOfX_any g' 0 l3 c3 V hl3 (by omega)
                  have HRP : Hid (0 < R) := hR0
                  have hzs : ∀ W : World, (zeroValue 127).run Try.prog W = .ok (.agg #[.int .i64 0, .int .i64 0]) W := fun W => Try.zeroValue127 W
                  clear hg' hgM' hfn hLL HL0 HL1 hR0
                  have HCLN : Hid (∀ V : World, _) := fun V => cloneT_any s V hsm
                  obtain ⟨s0, hs0, hs1, hs2, hs3⟩ := info_parts Try.infoStr
                  go_wp2_with fail
                  rw [← HX0.out]
                  refine (HCLN.out _).mono ?_
                  rintro _ X4 ⟨rfl, hb4⟩
                  have HP4 : Hid (Phys W X4 (w.heap.size + 1) (.slice na nl nc) (.slice (some ⟨u, 0, none⟩) (m + 1) cap) ((.slice (some ⟨g, 0, none⟩) len c, nx + 1, ah) :: rest) f acc) := HPX0.out.later hb4
                  have hrw4 := HP4.out.row
                  have HRW4 : Hid (X4.ownsRow W.heap.size 9 1 (.slice na nl nc) acc.length (acc.map Value.string)) := hrw4
                  have hz4 := HP4.out.kept.size
                  have hal2 : acc.length ≤ 1048577 := by have := HNLL.out; omega
                  clear hb4 e0 e2 HX0 hrw4 HPX0 t1c y1
                  go_wp2_with (at_builtin;  (refine wpList_append_own_at _ rfl _ _ 29 rfl W.heap.size 9 s0 (.string ⟨#[]⟩) 1 16 Try.underlying29 hs0 hs1 hs2 hs3 rfl (by decide) _ _ _ rfl (HRW4.out.alloc _) ⟨X4.heap.size, 0, none⟩ 1 1 ([s].map Value.string) rfl rfl (new_one (.string s) 9 rfl) (by intro u hu; simp at hu; subst hu; rfl) (by unfold maxLen; omega) (by omega) (by simp <;> omega) ?_; intro v' X hown5 hgrow5 _ hat5; obtain ⟨xa, xl, xc, rfl⟩ := row_slice hown5; have HPX : Hid (Phys W X (w.heap.size + 1) (.slice xa xl xc) (.slice (some ⟨u, 0, none⟩) (m + 1) cap) ((.slice (some ⟨g, 0, none⟩) len c, nx + 1, ah) :: rest) f (acc ++ ownName 3 s)) := (by rw [hon.out]; exact (HP4.out.later ((Below.refl _ _).alloc (Nat.le_refl _) _)).app (m := [s]) hown5 hgrow5 hat5); have f3b : X.cell? ⟨g, nx * 5 + 3, none⟩ = some (.slice (some ⟨g', 0, none⟩) l3 c3) := (by rw [cell_of_row X _ _ _ _ _ (HPX.out.at HCG.out.1 HCG.out.2)]; exact HK5.out.2.2); clear hown5 hgrow5 hat5 HP4 HRW4))
                  have HXL : Hid (xl = (acc ++ ownName 3 s).length) := by
                    rcases HPX.out.row.2 with ⟨e, h0⟩ | ⟨_, _, _, e, _⟩
                    · simp only [Value.slice.injEq] at e; show _ = _; omega
                    · simp only [Value.slice.injEq] at e; show _ = _; omega
                  have hxlb : xl ≤ 1048577 := by rw [HXL.out]; exact hlen2
                  have hgx : g < X.heap.size := lt_row (HPX.out.at HCG.out.1 HCG.out.2)
                  refine (HSP.out _).mono ?_
                  rintro _ X1 ⟨rfl, hb1⟩
                  have HP1 : Hid (Phys W X1 (w.heap.size + 1) (.slice xa xl xc) (.slice (some ⟨u, 0, none⟩) (m + 1) cap) _ f _) := HPX.out.later hb1
                  have f3c := cell_later hb1 f3b
                  have HF3 : Hid (X1.cell? ⟨g, nx * 5 + 3, none⟩ = some (.slice (some ⟨g', 0, none⟩) l3 c3)) := f3c
                  have hM1 := HP1.out.map
                  have hgx1 : g < X1.heap.size := lt_row (HP1.out.at HCG.out.1 HCG.out.2)
                  have hp1 : Plain X1 ⟨g', 0, none⟩ := ⟨_, _, HP1.out.at HG'.out.1 HG'.out.2⟩
                  have hfz := HFN.out (l3 : Int)
                  clear hb1 HPX f3b
                  go_wp2_with (at_lookup; refine wpList_look_spot _ rfl _ _ 121 rfl 113 127 spotExpr Try.underlying121 (hzs _) (w.heap.size + 1) f rfl hM1 _ _ rfl hp1 ?_; rw [hfz])
                  obtain ⟨X2, hX2⟩ : ∃ X2, X2 = X1.alloc (.cells #[.int .i64 0, .int .i64 0] 127) := ⟨_, rfl⟩
                  rw [← hX2]
                  have hb2 : Below X1.heap.size X1 X2 := by rw [hX2]; exact (Below.refl _ _).alloc (Nat.le_refl _) _
                  refine (HSP.out _).mono ?_
                  rintro _ X3 ⟨rfl, hb3⟩
                  have hb23 : Below X1.heap.size X1 X3 := hb2.trans (hb3.mono hb2.size)
                  have HP3 : Hid (Phys W X3 (w.heap.size + 1) (.slice xa xl xc) (.slice (some ⟨u, 0, none⟩) (m + 1) cap) _ f _) := HP1.out.later hb23
                  obtain ⟨w6, hrun6, hS6, hT6⟩ := HP3.out.map.store spotExpr Try.underlying121 (x := ⟨g', 0, none⟩) (n := l3) ⟨_, _, HP3.out.at HG'.out.1 HG'.out.2⟩ (.agg #[.int .i64 0, .int .i64 0])
                  have HP6 : Hid (Phys W w6 (w.heap.size + 1) (.slice xa xl xc) (.slice (some ⟨u, 0, none⟩) (m + 1) cap) _ (upd f ⟨g', 0, none⟩ l3 (.agg #[.int .i64 0, .int .i64 0])) _) := HP3.out.store hT6 hS6 (fun x q v hv => by
                    unfold upd at hv
                    by_cases e : x = ⟨g', 0, none⟩ ∧ q = (l3 : Int)
                    · rw [e.1]; exact ⟨lt_row HG'.out.1, HG'.out.2⟩
                    · rw [if_neg e] at hv; exact HP3.out.keys x q v hv)
                  have f36 : w6.cell? ⟨g, nx * 5 + 3, none⟩ = some (.slice (some ⟨g', 0, none⟩) l3 c3) := by rw [cell_of_row w6 _ _ _ _ _ (HP6.out.at HCG.out.1 HCG.out.2)]; exact HK5.out.2.2
                  have hgx6 : g < w6.heap.size := lt_row (HP6.out.at HCG.out.1 HCG.out.2)
                  have hrow6 := HP6.out.und
                  simp only [List.length_cons, HL.out] at hrow6
                  have HROW : Hid (w6.ownsRow W.heap.size 123 3 (.slice (some ⟨u, 0, none⟩) (m + 1) cap) (m + 1) _) := hrow6
                  have hW6 := HP6.out.kept.size
                  have hrun6' : (Instr.mapUpdate 121 (.map (some (w.heap.size + 1))) (.agg #[.pointer (some ⟨g', 0, none⟩), .int .i64 l3]) (.agg #[.int .i64 0, .int .i64 0])).run Try.prog X3 = .ok () w6 := hrun6
                  clear hb2 hb3 hb23 hX2 hM1 hp1 hfz f3c HF3 hS6 hT6 hrow6 HP1 HP3 hrun6
                  obtain ⟨j0, hj, hj0, hj1, hj2⟩ := info_parts Try.infoNaming
                  go_wp2_with (at_builtin; refine wpList_append_own_at _ rfl _ _ 124 rfl W.heap.size 123 j0 (.agg #[.slice none 0 0, .int .i64 0, .int .i64 0]) 3 40 Try.underlying124 hj hj0 hj1 hj2 rfl (by decide) _ _ _ rfl (HROW.out.alloc _) ⟨w6.heap.size, 0, none⟩ 1 1 [.slice (some ⟨g', 0, none⟩) l3 c3, .int .i64 0, .int .i64 xl] rfl rfl (three_cells w6 _ _ _ _) (by intro u hu; simp at hu; rcases hu with rfl | rfl | rfl <;> rfl) (by unfold maxLen; omega) (by omega) (by simp; omega) ?_; intro v' w7 hown7 hgrow7 _ hat7)
                  have HP7 : Hid (Phys W w7 (w.heap.size + 1) (.slice xa xl xc) v' ((.slice (some ⟨g', 0, none⟩) l3 c3, 0, (acc ++ ownName 3 s).length) :: _) _ _) := (HP6.out.later ((Below.refl _ _).alloc (Nat.le_refl _) _)).push (by simp only [List.length_cons, HL.out]; rw [← HXL.out]; exact hown7) hgrow7 hat7
                  clear hown7 hgrow7 hat7
                  go_wp2_with fail
                  go_roundw
                  case rel =>
                    obtain ⟨rem', rst', hL'⟩ := HLL.out (.agg #[.int .i64 0, .int .i64 0])
                    exact ⟨R - 1, ⟨_, _, _, _, _, HP7.out, hL'⟩, by omega⟩
                  case measure =>
                    obtain ⟨rem', rst', hL'⟩ := HLL.out (.agg #[.int .i64 0, .int .i64 0])
                    have q1 := (HMU.out _ _ _ _ ⟨_, _, _, _, _, HP7.out, hL'⟩).2
                    have q2 := HWE.out
                    have q3 := HRP.out
                    rw [HL.out] at q2
                    omega
            · have hon : Hid (ownName k s = []) := by show _ = _; unfold ownName; rw [if_neg]; exact fun h => hk h.1
              have HPX : Hid (Phys W (w2.setCell ⟨u, m * 3 + 1, none⟩ (.int .i64 (↑nx + 1))) (w.heap.size + 1) (.slice na nl nc) (.slice (some ⟨u, 0, none⟩) (m + 1) cap) ((.slice (some ⟨g, 0, none⟩) len c, nx + 1, ah) :: rest) f (acc ++ ownName k s)) := by
                rw [hon.out, List.append_nil, ← HX0.out]; exact HPX0.out
              have HXL : Hid (nl = (acc ++ ownName k s).length) := by rw [hon.out, List.append_nil]; exact HNLL.out
              clear HPX0 HX0
              have f3b : (w2.setCell ⟨u, m * 3 + 1, none⟩ (.int .i64 (↑nx + 1))).cell? ⟨g, nx * 5 + 3, none⟩ = some (.slice a3 l3 c3) := by rw [cell_of_row (w2.setCell ⟨u, m * 3 + 1, none⟩ (.int .i64 (↑nx + 1))) _ _ _ _ _ (HPX.out.at HCG.out.1 HCG.out.2)]; exact HK5.out.2.2
              by_cases h0 : l3 = 0
              · subst h0
                obtain ⟨R', rem', rst', hR', hL'⟩ := HL0.out rfl
                have HW' : Hid (NWalk W (w2.setCell ⟨u, m * 3 + 1, none⟩ (.int .i64 (↑nx + 1))) (w.heap.size + 1) tot (.slice na nl nc) (.slice (some ⟨u, 0, none⟩) (m + 1) cap) R' ∧ R' < R) := ⟨⟨_, _, _, _, _, HPX.out, hL'⟩, hR'⟩
                clear hL' HL0 HL1
                go_wp2_with fail
                go_roundw
                case rel => exact ⟨_, HW'.out.1, by have := HW'.out.2; omega⟩
                case measure =>
                  have q1 := (HMU.out _ _ _ _ HW'.out.1).2
                  have q2 := HWE.out
                  have q3 := HW'.out.2
                  rw [HL.out] at q2
                  omega
              · have hl3 : 0 < l3 := by omega
                obtain ⟨g', cur', rfl, hg', hgM', hfn, hR0, hLL⟩ := HL1.out hl3
                have HG' : Hid (W.heap[g']? = some (.cells cur' 27 (0, 0)) ∧ g' ≠ w.heap.size + 1) := ⟨hg', hgM'⟩
                have HFN : Hid (∀ q, f ⟨g', 0, none⟩ q = none) := hfn
                have HLL : Hid (∀ val, ∃ rem' rst', Logic W (w.heap.size + 1) tot ((.slice (some ⟨g', 0, none⟩) l3 c3, 0, (acc ++ ownName k s).length) :: (.slice (some ⟨g, 0, none⟩) len c, nx + 1, ah) :: rest) (R - 1) (upd f ⟨g', 0, none⟩ l3 val) rem' (acc ++ ownName k s) rst') := hLL
                have hne0 : ((l3 : Int) == 0) = false := by simp; omega
                have HSP : Hid (∀ V : World, _) := fun V => spotOfX_any g' 0 l3 c3 V hl3 (by omega)
                have HRP : Hid (0 < R) := hR0
                have hzs : ∀ W : World, (zeroValue 127).run Try.prog W = .ok (.agg #[.int .i64 0, .int .i64 0]) W := fun W => Try.zeroValue127 W
                clear hg' hgM' hfn hLL HL0 HL1 hR0
                go_wp2_with fail
                refine (HSP.out _).mono ?_
                rintro _ X1 ⟨rfl, hb1⟩
                have HP1 : Hid (Phys W X1 (w.heap.size + 1) (.slice na nl nc) (.slice (some ⟨u, 0, none⟩) (m + 1) cap) _ f _) := HPX.out.later hb1
                have f3c := cell_later hb1 f3b
                have HF3 : Hid (X1.cell? ⟨g, nx * 5 + 3, none⟩ = some (.slice (some ⟨g', 0, none⟩) l3 c3)) := f3c
                have hM1 := HP1.out.map
                have hgx1 : g < X1.heap.size := lt_row (HP1.out.at HCG.out.1 HCG.out.2)
                have hp1 : Plain X1 ⟨g', 0, none⟩ := ⟨_, _, HP1.out.at HG'.out.1 HG'.out.2⟩
                have hfz := HFN.out (l3 : Int)
                clear hb1 HPX f3b
                go_wp2_with (at_lookup; refine wpList_look_spot _ rfl _ _ 121 rfl 113 127 spotExpr Try.underlying121 (hzs _) (w.heap.size + 1) f rfl hM1 _ _ rfl hp1 ?_; rw [hfz])
                obtain ⟨X2, hX2⟩ : ∃ X2, X2 = X1.alloc (.cells #[.int .i64 0, .int .i64 0] 127) := ⟨_, rfl⟩
                rw [← hX2]
                have hb2 : Below X1.heap.size X1 X2 := by rw [hX2]; exact (Below.refl _ _).alloc (Nat.le_refl _) _
                refine (HSP.out _).mono ?_
                rintro _ X3 ⟨rfl, hb3⟩
                have hb23 : Below X1.heap.size X1 X3 := hb2.trans (hb3.mono hb2.size)
                have HP3 : Hid (Phys W X3 (w.heap.size + 1) (.slice na nl nc) (.slice (some ⟨u, 0, none⟩) (m + 1) cap) _ f _) := HP1.out.later hb23
                obtain ⟨w6, hrun6, hS6, hT6⟩ := HP3.out.map.store spotExpr Try.underlying121 (x := ⟨g', 0, none⟩) (n := l3) ⟨_, _, HP3.out.at HG'.out.1 HG'.out.2⟩ (.agg #[.int .i64 0, .int .i64 0])
                have HP6 : Hid (Phys W w6 (w.heap.size + 1) (.slice na nl nc) (.slice (some ⟨u, 0, none⟩) (m + 1) cap) _ (upd f ⟨g', 0, none⟩ l3 (.agg #[.int .i64 0, .int .i64 0])) _) := HP3.out.store hT6 hS6 (fun x q v hv => by
                  unfold upd at hv
                  by_cases e : x = ⟨g', 0, none⟩ ∧ q = (l3 : Int)
                  · rw [e.1]; exact ⟨lt_row HG'.out.1, HG'.out.2⟩
                  · rw [if_neg e] at hv; exact HP3.out.keys x q v hv)
                have f36 : w6.cell? ⟨g, nx * 5 + 3, none⟩ = some (.slice (some ⟨g', 0, none⟩) l3 c3) := by rw [cell_of_row w6 _ _ _ _ _ (HP6.out.at HCG.out.1 HCG.out.2)]; exact HK5.out.2.2
                have hgx6 : g < w6.heap.size := lt_row (HP6.out.at HCG.out.1 HCG.out.2)
                have hrow6 := HP6.out.und
                simp only [List.length_cons, HL.out] at hrow6
                have HROW : Hid (w6.ownsRow W.heap.size 123 3 (.slice (some ⟨u, 0, none⟩) (m + 1) cap) (m + 1) _) := hrow6
                have hW6 := HP6.out.kept.size
                have hrun6' : (Instr.mapUpdate 121 (.map (some (w.heap.size + 1))) (.agg #[.pointer (some ⟨g', 0, none⟩), .int .i64 l3]) (.agg #[.int .i64 0, .int .i64 0])).run Try.prog X3 = .ok () w6 := hrun6
                clear hb2 hb3 hb23 hX2 hM1 hp1 hfz f3c HF3 hS6 hT6 hrow6 HP1 HP3 hrun6
                obtain ⟨j0, hj, hj0, hj1, hj2⟩ := info_parts Try.infoNaming
                go_wp2_with (at_builtin; refine wpList_append_own_at _ rfl _ _ 124 rfl W.heap.size 123 j0 (.agg #[.slice none 0 0, .int .i64 0, .int .i64 0]) 3 40 Try.underlying124 hj hj0 hj1 hj2 rfl (by decide) _ _ _ rfl (HROW.out.alloc _) ⟨w6.heap.size, 0, none⟩ 1 1 [.slice (some ⟨g', 0, none⟩) l3 c3, .int .i64 0, .int .i64 nl] rfl rfl (three_cells w6 _ _ _ _) (by intro u hu; simp at hu; rcases hu with rfl | rfl | rfl <;> rfl) (by unfold maxLen; omega) (by omega) (by simp; omega) ?_; intro v' w7 hown7 hgrow7 _ hat7)
                have HP7 : Hid (Phys W w7 (w.heap.size + 1) (.slice na nl nc) v' ((.slice (some ⟨g', 0, none⟩) l3 c3, 0, (acc ++ ownName k s).length) :: _) _ _) := (HP6.out.later ((Below.refl _ _).alloc (Nat.le_refl _) _)).push (by simp only [List.length_cons, HL.out]; rw [← HXL.out]; exact hown7) hgrow7 hat7
                clear hown7 hgrow7 hat7
                go_wp2_with fail
                go_roundw
                case rel =>
                  obtain ⟨rem', rst', hL'⟩ := HLL.out (.agg #[.int .i64 0, .int .i64 0])
                  exact ⟨R - 1, ⟨_, _, _, _, _, HP7.out, hL'⟩, by omega⟩
                case measure =>
                  obtain ⟨rem', rst', hL'⟩ := HLL.out (.agg #[.int .i64 0, .int .i64 0])
                  have q1 := (HMU.out _ _ _ _ ⟨_, _, _, _, _, HP7.out, hL'⟩).2
                  have q2 := HWE.out
                  have q3 := HRP.out
                  rw [HL.out] at q2
                  omega
      · obtain rfl : nx = len := by omega
        have hne : ((nx : Int) == (nx : Int)) = true := by simp
        go_wp2_with fail
        go_cut [34] (fun v wx => v = .bool true ∧ Below wr.heap.size wr wx)
        case first =>
          go_quiet (fail)
          go_wp2_with fail
          go_meet
          case rel => exact ⟨rfl, below_drewN (Below.refl _ _) _⟩
        case rest =>
          obtain ⟨rfl, hbc⟩ := hcut
          obtain ⟨w1, hw1⟩ : ∃ w1, w1 = wc := ⟨_, rfl⟩
          subst hw1
          have t0' := cell_later hbc t0
          have t2' := cell_later hbc t2
          have T0 : Hid (w1.cell? ⟨u, m * 3, none⟩ = some (.slice (some ⟨g, 0, none⟩) nx c)) := t0'
          have T2 : Hid (w1.cell? ⟨u, m * 3 + 2, none⟩ = some (.int .i64 (ah : Nat))) := t2'
          have HSP : Hid (∀ V : World, _) := fun V => spotOfX_any g 0 nx c V hlen0 (by omega)
          have HST6 : Hid (∀ w5 : World, Below w1.heap.size w1 w5 → ∃ w6, (Instr.mapUpdate 121 (.map (some (w.heap.size + 1))) (.agg #[.pointer (some ⟨g, 0, none⟩), .int .i64 nx]) (.agg #[.int .i64 (ah : Nat), .int .i64 nl])).run Try.prog w5 = .ok () w6 ∧ Hid (Phys W w6 (w.heap.size + 1) (.slice na nl nc) (.slice (some ⟨u, 0, none⟩) m cap) rest (upd f ⟨g, 0, none⟩ nx (.agg #[.int .i64 (ah : Nat), .int .i64 nl])) acc)) := fun w5 h5 => by
            have hP5 := (HP.out.later hbc).later h5
            obtain ⟨w6, hrun6, hS6, hT6⟩ := hP5.map.store spotExpr Try.underlying121 (x := ⟨g, 0, none⟩) (n := nx) ⟨_, _, hP5.at HCG.out.1 HCG.out.2⟩ (.agg #[.int .i64 (ah : Nat), .int .i64 nl])
            have h6 := (hP5.store hT6 hS6 (fun x q v hv => by
              by_cases e : x = ⟨g, 0, none⟩ ∧ q = (nx : Int)
              · rw [e.1]; exact ⟨lt_row HCG.out.1, HCG.out.2⟩
              · rw [if_neg e] at hv; exact hP5.keys x q v hv)).pop
            rw [HL.out] at h6
            exact ⟨w6, hrun6, h6⟩
          clear t0 t1 t2 hbc HUU
          go_wp2_with fail
          go_region_with (go_at_call 75; refine (HSP.out _).mono ?_; rintro e w5 ⟨rfl, hb5⟩; have hb5' : Below w1.heap.size w1 w5 := (by first | exact hb5 | exact (Below.refl _ _).drew.trans hb5 | exact (Below.refl _ _).drew.drew.trans hb5); have t0' := cell_later hb5' T0.out; have t2' := cell_later hb5' T2.out; obtain ⟨w6, hrun6, HP6⟩ := HST6.out w5 hb5')
          all_goals
            clear hb5 hb5' hrun6 t0' t2' HST6
            go_wp2_with fail
            go_roundw
            case rel => exact ⟨R - 1, ⟨_, _, _, _, _, HP6.out, (HLG.out.pop _).2⟩, by omega⟩
            case measure =>
              have q1 := (HMU.out _ _ _ _ ⟨_, _, _, _, _, HP6.out, (HLG.out.pop (.agg #[.int .i64 (ah : Nat), .int .i64 nl])).2⟩).2
              have q2 := HWE.out
              have q3 := (HLG.out.pop (.agg #[.int .i64 (ah : Nat), .int .i64 nl])).1
              rw [HL.out] at q2
              omega

end Go.Proofs.Ytpokheklplcamaa
