/- The program's SameExpr: two expressions held against each other, but for their lists. -/
import Derived.Test.YtpokheklplcamaaSa2M
import Derived.Test.YtpokheklplcamaaRLawM
import Derived.Deep.DeepCutAuto
import Derived.BigQuiet
namespace Go.Proofs.Ytpokheklplcamaa
open Go.RowKit
set_option linter.unusedVariables false

theorem own_slice {w : World} {B e z n : Nat} {v : Value} {xs : List Value} (h : w.ownsRow B e z v n xs) : ∃ a l c, v = .slice a l c := by
  rcases h.2 with ⟨e, _⟩ | ⟨g, c, cur, e, _⟩
  · exact ⟨_, _, _, e⟩
  · exact ⟨_, _, _, e⟩

/-- Five cells of an expression. -/
structure At5 (w : World) (g o : Nat) (k n : Int) (s : ByteArray) (v3 v4 : Value) : Prop where
  c0 : w.cell? ⟨g, o, none⟩ = some (.int .i64 k)
  c1 : w.cell? ⟨g, o + 1, none⟩ = some (.int .i64 n)
  c2 : w.cell? ⟨g, o + 2, none⟩ = some (.string s)
  c3 : w.cell? ⟨g, o + 3, none⟩ = some v3
  c4 : w.cell? ⟨g, o + 4, none⟩ = some v4

set_option maxRecDepth 100000 in
set_option maxHeartbeats 4000000 in
theorem alikeX_no (p ga oa gb ob : Nat) (k n : Int) (s : ByteArray) (a3 : Option Addr) (l3 c3 : Nat) (a4 : Option Addr) (l4 c4 : Nat) (k2 n2 : Int) (s2 : ByteArray) (b3 : Option Addr) (m3 d3 : Nat) (b4 : Option Addr) (m4 d4 : Nat) (w : World) (A : At5 w ga oa k n s (.slice a3 l3 c3) (.slice a4 l4 c4)) (B : At5 w gb ob k2 n2 s2 (.slice b3 m3 d3) (.slice b4 m4 d4)) (q3 : l3 ≤ 1048576) (q4 : l4 ≤ 1048576) (r3 : m3 ≤ 1048576) (r4 : m4 ≤ 1048576) (h : ¬ (k = k2 ∧ n = n2 ∧ s = s2 ∧ l3 = m3 ∧ l4 = m4)) :
    Calls Try.prog 53 #[.pointer (some ⟨p, 0, none⟩), .pointer (some ⟨ga, oa, none⟩), .pointer (some ⟨gb, ob, none⟩)] w fun e w' => e = .returned (.bool false) ∧ Below w.heap.size w w' := by
  obtain ⟨x0, x1, x2, x3, x4⟩ := A
  obtain ⟨y0, y1, y2, y3, y4⟩ := B
  by_cases h0 : k = k2
  · subst h0
    by_cases h1 : n = n2
    · subst h1
      by_cases h2 : s = s2
      · subst h2
        by_cases h3 : l3 = m3
        · subst h3
          have h4 : ¬ l4 = m4 := fun e => h ⟨rfl, rfl, rfl, rfl, e⟩
          have h4' : ((l4 : Int) != (m4 : Int)) = true := by simp; omega
          clear h
          go_enter Try.func53, Try.ntmps53
          go_wp2_with fail
          go_quiet (fail)
          go_wp2_with fail
          go_ret
          exact ⟨rfl, below_drewN (Below.refl _ _) _⟩
        · have h3' : ((l3 : Int) != (m3 : Int)) = true := by simp; omega
          clear h
          go_enter Try.func53, Try.ntmps53
          go_wp2_with fail
          go_quiet (fail)
          go_wp2_with fail
          go_ret
          exact ⟨rfl, below_drewN (Below.refl _ _) _⟩
      · have h2' : (s.toList == s2.toList) = false := by rw [beq_eq_false_iff_ne]; exact fun e => h2 (str_eq' e)
        clear q3 q4 r3 r4
        clear h
        go_enter Try.func53, Try.ntmps53
        go_wp2_with fail
        go_quiet (fail)
        go_wp2_with fail
        go_ret
        exact ⟨rfl, below_drewN (Below.refl _ _) _⟩
    · have h1' : (n != n2) = true := by simp; exact h1
      clear q3 q4 r3 r4
      clear h
      go_enter Try.func53, Try.ntmps53
      go_wp2_with fail
      go_quiet (fail)
      go_wp2_with fail
      go_ret
      exact ⟨rfl, below_drewN (Below.refl _ _) _⟩
  · have h0' : (k != k2) = true := by simp; exact h0
    clear q3 q4 r3 r4
    clear h
    go_enter Try.func53, Try.ntmps53
    go_wp2_with fail
    go_quiet (fail)
    go_wp2_with fail
    go_ret
    exact ⟨rfl, below_drewN (Below.refl _ _) _⟩

/-- The same in a block that stays. -/
def Row5 (w : World) (g o : Nat) (k n : Int) (s : ByteArray) (v3 v4 : Value) : Prop := ∃ cur t, w.heap[g]? = some (.cells cur t (0, 0)) ∧ cur[o]? = some (.int .i64 k) ∧ cur[o + 1]? = some (.int .i64 n) ∧ cur[o + 2]? = some (.string s) ∧ cur[o + 3]? = some v3 ∧ cur[o + 4]? = some v4
theorem Row5.at {W w : World} {g o : Nat} {k n : Int} {s : ByteArray} {v3 v4 : Value} (h : Row5 W g o k n s v3 v4) (hw : w.heap[g]? = W.heap[g]?) : At5 w g o k n s v3 v4 := by
  obtain ⟨cur, t, h0, h1, h2, h3, h4, h5⟩ := h
  have hr := hw.trans h0
  exact ⟨by rw [cell_of_row w _ _ _ _ _ hr]; exact h1, by rw [cell_of_row w _ _ _ _ _ hr]; exact h2, by rw [cell_of_row w _ _ _ _ _ hr]; exact h3, by rw [cell_of_row w _ _ _ _ _ hr]; exact h4, by rw [cell_of_row w _ _ _ _ _ hr]; exact h5⟩
theorem Sw.at5 {W wr : World} {p met nu g o : Nat} {pv uv tv v3 v4 : Value} {f : Addr → Int → Option Value} {fs : List Tf} {K : List (Nat × Obj)} {k n : Int} {s : ByteArray} (h : Sw W wr p met nu pv uv tv f fs K) (hr : Row5 W g o k n s v3 v4) (hp : g ≠ p) : At5 wr g o k n s v3 v4 := by
  obtain ⟨cur, t, h0, _⟩ := id hr
  exact hr.at (h.kept.block g (lt_row h0) (by omega))

theorem Try.infoTwo : (Try.prog.info? 96).map (fun i => (i.zero, i.size, i.bytes)) = some (some (.agg #[.slice none 0 0, .slice none 0 0, .slice none 0 0, .slice none 0 0]), 4, 96) := by kernel_rfl

theorem four_cells (w : World) (a b c d : Value) (t : TypeId) : ∀ j u, [a, b, c, d][j]? = some u → (w.alloc (.cells #[a, b, c, d] t)).cell? ((⟨w.heap.size, 0, none⟩ : Addr).add j) = some u := by
  intro j u hj
  match j, hj with
  | 0, hj => simp at hj; subst hj; simp [Addr.add]
  | 1, hj => simp at hj; subst hj; simp [Addr.add]
  | 2, hj => simp at hj; subst hj; simp [Addr.add]
  | 3, hj => simp at hj; subst hj; simp [Addr.add]

theorem clausesSpot_any (b o n c : Nat) (w : World) (hn : 0 < n) (hn1 : n ≤ 9223372036854775807) : Calls Try.prog 82 #[.slice (some ⟨b, o, none⟩) n c] w fun e w' => e = .returned (.agg #[.pointer (some ⟨b, o, none⟩), .int .i64 n]) ∧ Below w.heap.size w w' := by
  go_enter Try.func82, Try.ntmps82
  go_wp2
  refine bodyPost_ret (v := .agg #[.pointer (some ⟨b, o, none⟩), .int .i64 n]) (by first | (simp [results, Try.results82, go_sem]; done) | (simp [results, Try.results82, go_sem]; rfl)) rfl ⟨rfl, ?_⟩
  exact (Below.refl _ _).alloc (Nat.le_refl _) _

end Go.Proofs.Ytpokheklplcamaa

/- The program's SameExpr: two expressions alike but for their lists (Sa7). -/
namespace Go.Proofs.Ytpokheklplcamaa
open Go.RowKit
set_option linter.unusedVariables false

set_option maxRecDepth 100000 in
set_option maxHeartbeats 8000000 in
theorem alike_ee (p ga oa gb ob : Nat) (k n : Int) (s : ByteArray) (a3 b3 : Option Addr) (c3 d3 : Nat) (a4 b4 : Option Addr) (c4 d4 : Nat) (W w : World) (A : Row5 W ga oa k n s (.slice a3 0 c3) (.slice a4 0 c4)) (B : Row5 W gb ob k n s (.slice b3 0 d3) (.slice b4 0 d4)) (hga : ga ≠ p) (hgb : gb ≠ p) (extC : List Nat) (E0 R : Nat) (Q : Prop) (met nu : Nat) (pv uv tv : Value) (f : Addr → Int → Option Value) (fs : List Tf) (K : List (Nat × Obj)) (h : Sw W w p met nu pv uv tv f fs K) (hL : Lg W p met nu f fs extC E0 R Q) :
    Calls Try.prog 53 #[.pointer (some ⟨p, 0, none⟩), .pointer (some ⟨ga, oa, none⟩), .pointer (some ⟨gb, ob, none⟩)] w fun e w' => e = .returned (.bool true) ∧ Hid (∃ met' nu' pv' uv' tv' f' fs', Sw W w' p met' nu' pv' uv' tv' f' fs' K ∧ Lg W p met' nu' f' fs' extC E0 (R) (Q)) := by
  obtain ⟨x0, x1, x2, x3, x4⟩ := h.at5 A hga
  obtain ⟨y0, y1, y2, y3, y4⟩ := h.at5 B hgb
  have HA : Hid (Row5 W ga oa k n s (.slice a3 0 c3) (.slice a4 0 c4) ∧ ga ≠ p) := ⟨A, hga⟩
  have HB : Hid (Row5 W gb ob k n s (.slice b3 0 d3) (.slice b4 0 d4) ∧ gb ≠ p) := ⟨B, hgb⟩
  have HS : Hid (Sw W w p met nu pv uv tv f fs K) := h
  have HL0 : Hid (Lg W p met nu f fs extC E0 R Q) := hL
  clear h hL A B
  go_enter Try.func53, Try.ntmps53
  go_wp2_with fail
  go_cut [63] (fun v wx => v = .bool false ∧ Below w.heap.size w wx)
  case first =>
    go_quiet (fail)
    go_wp2_with fail
    go_meet
    case rel => exact ⟨rfl, below_drewN (Below.refl _ _) _⟩
  case rest =>
    obtain ⟨rfl, hbc⟩ := hcut
    obtain ⟨w0, hw0⟩ : ∃ w, w = wc := ⟨_, rfl⟩
    rw [← hw0] at hbc ⊢
    have HS0 : Hid (Sw W w0 p met nu pv uv tv f fs K) := HS.out.later hbc
    clear hbc hw0 x0 x1 x2 x3 x4 y0 y1 y2 y3 y4 HS
    obtain ⟨z0, z1, z2, z3, z4⟩ := HS0.out.at5 HA.out.1 HA.out.2
    obtain ⟨v0, v1, v2, v3, v4⟩ := HS0.out.at5 HB.out.1 HB.out.2
    go_wp2_with fail
    go_cut [86] (fun v wx => v = .bool false ∧ Below w0.heap.size w0 wx)
    case first =>
      go_quiet (fail)
      go_wp2_with fail
      go_meet
      case rel => exact ⟨rfl, below_drewN (Below.refl _ _) _⟩
    case rest =>
      obtain ⟨rfl, hbc⟩ := hcut
      obtain ⟨w1, hw1⟩ : ∃ w, w = wc := ⟨_, rfl⟩
      rw [← hw1] at hbc ⊢
      have HS1 : Hid (Sw W w1 p (met) nu pv uv tv f (fs) K) := HS0.out.later hbc
      clear hbc hw1 z0 z1 z2 z3 z4 v0 v1 v2 v3 v4
      obtain ⟨z0, z1, z2, z3, z4⟩ := HS1.out.at5 HA.out.1 HA.out.2
      obtain ⟨v0, v1, v2, v3, v4⟩ := HS1.out.at5 HB.out.1 HB.out.2
      go_wp2_with fail
      go_cut [127] (fun v wx => v = .bool false ∧ Below w1.heap.size w1 wx)
      case first =>
        go_quiet (fail)
        go_wp2_with fail
        go_meet
        case rel => exact ⟨rfl, below_drewN (Below.refl _ _) _⟩
      case rest =>
        obtain ⟨rfl, hbc⟩ := hcut
        obtain ⟨w2, hw2⟩ : ∃ w, w = wc := ⟨_, rfl⟩
        rw [← hw2] at hbc ⊢
        have HS2 : Hid (Sw W w2 p (met) nu pv uv tv f (fs) K) := HS1.out.later hbc
        clear hbc hw2 z0 z1 z2 z3 z4 v0 v1 v2 v3 v4
        go_wp2_with fail
        go_ret
        exact ⟨rfl, _, _, _, _, _, _, _, HS2.out, HL0.out⟩

end Go.Proofs.Ytpokheklplcamaa

/- The program's SameExpr: two expressions alike but for their lists (Sa8). -/
namespace Go.Proofs.Ytpokheklplcamaa
open Go.RowKit
set_option linter.unusedVariables false

set_option maxRecDepth 100000 in
set_option maxHeartbeats 8000000 in
theorem alike_fe (p ga oa gb ob : Nat) (k n : Int) (s : ByteArray) (ha hb l3 : Nat) (c3 d3 : Nat) (a4 b4 : Option Addr) (c4 d4 : Nat) (W w : World) (A : Row5 W ga oa k n s (.slice (some ⟨ha, 0, none⟩) l3 c3) (.slice a4 0 c4)) (B : Row5 W gb ob k n s (.slice (some ⟨hb, 0, none⟩) l3 d3) (.slice b4 0 d4)) (hga : ga ≠ p) (hgb : gb ≠ p) (hl3 : 0 < l3) (q3 : l3 ≤ 1048576) (cuA cuB : Array Value) (hHa : W.heap[ha]? = some (.cells cuA 27 (0, 0))) (hHb : W.heap[hb]? = some (.cells cuB 27 (0, 0))) (t1 u1 : List Nat) (RE : Nat) (QE : Prop) (hTE : TF W (.slice (some ⟨ha, 0, none⟩) l3 c3, .slice (some ⟨hb, 0, none⟩) l3 d3, .slice none 0 0, .slice none 0 0) (t1 ++ u1) RE QE) (extC : List Nat) (E0 EE R : Nat) (Q : Prop) (hEE : EE + RE + 1 ≤ E0) (met nu : Nat) (pv uv tv : Value) (f : Addr → Int → Option Value) (fs : List Tf) (K : List (Nat × Obj)) (h : Sw W w p met nu pv uv tv f fs K) (hL : Lg W p met nu f fs ((ha :: t1) ++ (hb :: u1) ++ extC) E0 R Q) :
    Calls Try.prog 53 #[.pointer (some ⟨p, 0, none⟩), .pointer (some ⟨ga, oa, none⟩), .pointer (some ⟨gb, ob, none⟩)] w fun e w' => e = .returned (.bool true) ∧ Hid (∃ met' nu' pv' uv' tv' f' fs', Sw W w' p met' nu' pv' uv' tv' f' fs' K ∧ Lg W p met' nu' f' fs' extC EE (RE + R) (QE ∧ Q)) := by
  obtain ⟨x0, x1, x2, x3, x4⟩ := h.at5 A hga
  obtain ⟨y0, y1, y2, y3, y4⟩ := h.at5 B hgb
  have HA : Hid (Row5 W ga oa k n s (.slice (some ⟨ha, 0, none⟩) l3 c3) (.slice a4 0 c4) ∧ ga ≠ p) := ⟨A, hga⟩
  have HB : Hid (Row5 W gb ob k n s (.slice (some ⟨hb, 0, none⟩) l3 d3) (.slice b4 0 d4) ∧ gb ≠ p) := ⟨B, hgb⟩
  have HS : Hid (Sw W w p met nu pv uv tv f fs K) := h
  have HL0 : Hid (Lg W p met nu f fs ((ha :: t1) ++ (hb :: u1) ++ extC) E0 R Q) := hL
  have HHE : Hid (W.heap[ha]? = some (.cells cuA 27 (0, 0)) ∧ W.heap[hb]? = some (.cells cuB 27 (0, 0))) := ⟨hHa, hHb⟩
  have HTE : Hid (TF W (.slice (some ⟨ha, 0, none⟩) l3 c3, .slice (some ⟨hb, 0, none⟩) l3 d3, .slice none 0 0, .slice none 0 0) (t1 ++ u1) RE QE) := hTE
  have hl3' : (0 : Int) < (l3 : Int) := by omega
  clear hHa hHb hTE
  clear h hL A B
  go_enter Try.func53, Try.ntmps53
  go_wp2_with fail
  go_cut [63] (fun v wx => v = .bool false ∧ Below w.heap.size w wx)
  case first =>
    go_quiet (fail)
    go_wp2_with fail
    go_meet
    case rel => exact ⟨rfl, below_drewN (Below.refl _ _) _⟩
  case rest =>
    obtain ⟨rfl, hbc⟩ := hcut
    obtain ⟨w0, hw0⟩ : ∃ w, w = wc := ⟨_, rfl⟩
    rw [← hw0] at hbc ⊢
    have HS0 : Hid (Sw W w0 p met nu pv uv tv f fs K) := HS.out.later hbc
    clear hbc hw0 x0 x1 x2 x3 x4 y0 y1 y2 y3 y4 HS
    obtain ⟨z0, z1, z2, z3, z4⟩ := HS0.out.at5 HA.out.1 HA.out.2
    obtain ⟨v0, v1, v2, v3, v4⟩ := HS0.out.at5 HB.out.1 HB.out.2
    obtain ⟨fr1, fr2, fr3, fr4, fr5, fr6, fr7⟩ := HL0.out.fresh
    have HJ : Hid (∀ V : World, Below w0.heap.size w0 V → _) := fun V hV => joinX_new (HS0.out.later hV) ha l3 hb l3 _ _ _ _ HHE.out.1 HHE.out.2 fr1 fr2 fr3 fr4 fr5 fr6 fr7
    clear fr1 fr2 fr3 fr4 fr5 fr6 fr7
    go_wp2_with fail
    have hn0 := After.some w0
    have r3 := After.cell z3
    have s3 := After.cell v3
    refine wp_region_after_tail 20 (by kernel_rfl) (by kernel_rfl) ?_
    simp only [List.take_succ_cons, List.take_zero, List.drop_succ_cons, List.drop_zero]
    repeat (go_big_quiet_step (first | (go_at_call 75; with_reducible exact calls_after (spotOfX_any ha 0 l3 c3 _ hl3 (by omega))) | (go_at_call 75; with_reducible exact calls_after (spotOfX_any hb 0 l3 d3 _ hl3 (by omega)))))
    refine wpQuiet_nil ?_
    rintro _ ⟨nq, rfl⟩
    go_wp2_with fail
    refine (HJ.out nq.now nq.bel).mono ?_
    clear HJ
    rintro e w2 ⟨rfl, HQ⟩
    obtain ⟨nu1, pv1, uv1, f1, hS2, hnu, hf⟩ := HQ.out
    have HS2 : Hid (Sw W w2 p (met + 1) nu1 pv1 uv1 tv f1 fs K) := hS2
    have HFN : Hid (nu1 ≤ 2 * (met + 1) ∧ _) := ⟨hnu, hf⟩
    obtain ⟨e0, e1, e2, e3, e4⟩ := hS2.cells
    obtain ⟨z0, z1, z2, z3, z4⟩ := hS2.at5 HA.out.1 HA.out.2
    obtain ⟨v0, v1, v2, v3, v4⟩ := hS2.at5 HB.out.1 HB.out.2
    have hrow := hS2.todo
    have hp2 : p < w2.heap.size := Nat.lt_of_lt_of_le hS2.plt hS2.kept.size
    have hz2 : W.heap.size ≤ w2.heap.size := hS2.kept.size
    have hfs : (fs).length ≤ 16777216 := HL0.out.few
    obtain ⟨tva, tvl, tvc, rfl⟩ := own_slice hrow
    clear HQ hS2 r3 s3 hn0 hnu hf
    obtain ⟨j0, hj, hj0, hj1, hj2⟩ := info_parts Try.infoTwo
    have HAP : Hid (∀ (v' : Value) (w3 : World), w3.ownsRow W.heap.size 96 4 v' ((fs).length + 1) (tcells (fs) ++ [.slice (some ⟨ha, 0, none⟩) l3 c3, .slice (some ⟨hb, 0, none⟩) l3 d3, .slice none 0 0, .slice none 0 0]) → (w2.alloc (.cells #[.slice (some ⟨ha, 0, none⟩) l3 c3, .slice (some ⟨hb, 0, none⟩) l3 d3, .slice none 0 0, .slice none 0 0] 96)).drew.grownBy w3 (Value.slice tva tvl tvc).ownBlock → (v'.ownBlock = (Value.slice tva tvl tvc).ownBlock ∨ v'.ownBlock = some (w2.alloc (.cells #[.slice (some ⟨ha, 0, none⟩) l3 c3, .slice (some ⟨hb, 0, none⟩) l3 d3, .slice none 0 0, .slice none 0 0] 96)).drew.heap.size) →
        w3.cell? ⟨p, 3, none⟩ = some (.slice tva tvl tvc) ∧ w3.frozen? ⟨p, 3, none⟩ = false ∧ Hid (Sw W (w3.setCell ⟨p, 3, none⟩ v') p (met + 1) nu1 pv1 uv1 v' f1 ((.slice (some ⟨ha, 0, none⟩) l3 c3, .slice (some ⟨hb, 0, none⟩) l3 d3, .slice none 0 0, .slice none 0 0) :: fs) K)) := fun v' w3 h1 h2 h3 => by
      have hL := HS2.out.later ((Below.refl _ _).alloc (Nat.le_refl _) (.cells #[.slice (some ⟨ha, 0, none⟩) l3 c3, .slice (some ⟨hb, 0, none⟩) l3 d3, .slice none 0 0, .slice none 0 0] 96)).drew
      have hr := hL.rowTo h2
      exact ⟨by rw [cell_of_row w3 _ 3 _ _ _ hr]; rfl, frozen_of_row w3 _ _ _ _ hr, hL.pushed (fr := (_, _, _, _)) h1 h2 h3⟩
    go_wp2_with fail
    go_cut [102] (fun v wx => Hid (Sw W wx p (met + 1) nu1 pv1 uv1 v f1 ((.slice (some ⟨ha, 0, none⟩) l3 c3, .slice (some ⟨hb, 0, none⟩) l3 d3, .slice none 0 0, .slice none 0 0) :: fs) K))
    case first =>
      go_region_law (refine step_append_own rfl (.tmp 91) (.tmp 101) 91 rfl W.heap.size 96 j0 (.agg #[.slice none 0 0, .slice none 0 0, .slice none 0 0, .slice none 0 0]) 4 96 Try.underlying91 hj hj0 hj1 hj2 rfl (by decide) (.slice tva tvl tvc) (fs).length (tcells (fs)) (by simp [Act.eval]) (hrow.alloc _) ⟨w2.heap.size, 0, none⟩ 1 1 [.slice (some ⟨ha, 0, none⟩) l3 c3, .slice (some ⟨hb, 0, none⟩) l3 d3, .slice none 0 0, .slice none 0 0] (by simp [Act.eval]) rfl (four_cells w2 _ _ _ _ _) (by intro u hu; simp at hu; rcases hu with rfl | rfl | rfl | rfl <;> rfl) (by unfold maxLen; omega) (by omega) (by simp; omega) ?_; intro v' w3 hown3 hgrow3 hat3; obtain ⟨ta, tl, tc, rfl⟩ := own_slice hown3; obtain ⟨t1, t2, HS3⟩ := HAP.out _ _ hown3 hgrow3 hat3)
      all_goals
        clear hown3 hgrow3 hat3
        go_wp2_with fail
        go_meet
        case rel => exact HS3
    case rest =>
      obtain ⟨w1, hw1⟩ : ∃ w, w = wc := ⟨_, rfl⟩
      obtain ⟨tv1, htv1⟩ : ∃ v, v = u102 := ⟨_, rfl⟩
      have HS1 : Hid (Sw W w1 p (met + 1) nu1 pv1 uv1 tv1 f1 ((.slice (some ⟨ha, 0, none⟩) l3 c3, .slice (some ⟨hb, 0, none⟩) l3 d3, .slice none 0 0, .slice none 0 0) :: fs) K) := by rw [hw1, htv1]; exact hcut
      rw [← hw1]
      clear htv1
      have HL1 : Hid (Lg W p (met + 1) nu1 f1 ((.slice (some ⟨ha, 0, none⟩) l3 c3, .slice (some ⟨hb, 0, none⟩) l3 d3, .slice none 0 0, .slice none 0 0) :: fs) extC EE (RE + R) (QE ∧ Q)) := HL0.out.push HTE.out hEE HFN.out.1 HFN.out.2
      clear hcut hw1 HAP HS2 HFN hrow z0 z1 z2 z3 z4 v0 v1 v2 v3 v4 e0 e1 e2 e3 e4 hfs hp2 hz2 hj hj0 hj1 hj2
      obtain ⟨z0, z1, z2, z3, z4⟩ := HS1.out.at5 HA.out.1 HA.out.2
      obtain ⟨v0, v1, v2, v3, v4⟩ := HS1.out.at5 HB.out.1 HB.out.2
      go_wp2_with fail
      go_cut [127] (fun v wx => v = .bool false ∧ Below w1.heap.size w1 wx)
      case first =>
        go_quiet (fail)
        go_wp2_with fail
        go_meet
        case rel => exact ⟨rfl, below_drewN (Below.refl _ _) _⟩
      case rest =>
        obtain ⟨rfl, hbc⟩ := hcut
        obtain ⟨w2, hw2⟩ : ∃ w, w = wc := ⟨_, rfl⟩
        rw [← hw2] at hbc ⊢
        have HS2 : Hid (Sw W w2 p ((met + 1)) nu1 pv1 uv1 tv1 f1 (((.slice (some ⟨ha, 0, none⟩) l3 c3, .slice (some ⟨hb, 0, none⟩) l3 d3, .slice none 0 0, .slice none 0 0) :: fs)) K) := HS1.out.later hbc
        clear hbc hw2 z0 z1 z2 z3 z4 v0 v1 v2 v3 v4
        go_wp2_with fail
        go_ret
        exact ⟨rfl, _, _, _, _, _, _, _, HS2.out, HL1.out⟩

end Go.Proofs.Ytpokheklplcamaa

/- The program's SameExpr: two expressions alike but for their lists (Sa9). -/
namespace Go.Proofs.Ytpokheklplcamaa
open Go.RowKit
set_option linter.unusedVariables false

set_option maxRecDepth 100000 in
set_option maxHeartbeats 8000000 in
theorem alike_ef (p ga oa gb ob : Nat) (k n : Int) (s : ByteArray) (a3 b3 : Option Addr) (c3 d3 : Nat) (hc hd l4 : Nat) (c4 d4 : Nat) (W w : World) (A : Row5 W ga oa k n s (.slice a3 0 c3) (.slice (some ⟨hc, 0, none⟩) l4 c4)) (B : Row5 W gb ob k n s (.slice b3 0 d3) (.slice (some ⟨hd, 0, none⟩) l4 d4)) (hga : ga ≠ p) (hgb : gb ≠ p) (hl4 : 0 < l4) (q4 : l4 ≤ 1048576) (cuC cuD : Array Value) (hHc : W.heap[hc]? = some (.cells cuC 33 (0, 0))) (hHd : W.heap[hd]? = some (.cells cuD 33 (0, 0))) (t2 u2 : List Nat) (RC : Nat) (QC : Prop) (hTC : TF W (.slice none 0 0, .slice none 0 0, .slice (some ⟨hc, 0, none⟩) l4 c4, .slice (some ⟨hd, 0, none⟩) l4 d4) (t2 ++ u2) RC QC) (extC : List Nat) (E0 EC R : Nat) (Q : Prop) (hEC : EC + RC + 1 ≤ E0) (met nu : Nat) (pv uv tv : Value) (f : Addr → Int → Option Value) (fs : List Tf) (K : List (Nat × Obj)) (h : Sw W w p met nu pv uv tv f fs K) (hL : Lg W p met nu f fs ((hc :: t2) ++ (hd :: u2) ++ extC) E0 R Q) :
    Calls Try.prog 53 #[.pointer (some ⟨p, 0, none⟩), .pointer (some ⟨ga, oa, none⟩), .pointer (some ⟨gb, ob, none⟩)] w fun e w' => e = .returned (.bool true) ∧ Hid (∃ met' nu' pv' uv' tv' f' fs', Sw W w' p met' nu' pv' uv' tv' f' fs' K ∧ Lg W p met' nu' f' fs' extC EC (RC + R) (QC ∧ Q)) := by
  obtain ⟨x0, x1, x2, x3, x4⟩ := h.at5 A hga
  obtain ⟨y0, y1, y2, y3, y4⟩ := h.at5 B hgb
  have HA : Hid (Row5 W ga oa k n s (.slice a3 0 c3) (.slice (some ⟨hc, 0, none⟩) l4 c4) ∧ ga ≠ p) := ⟨A, hga⟩
  have HB : Hid (Row5 W gb ob k n s (.slice b3 0 d3) (.slice (some ⟨hd, 0, none⟩) l4 d4) ∧ gb ≠ p) := ⟨B, hgb⟩
  have HS : Hid (Sw W w p met nu pv uv tv f fs K) := h
  have HL0 : Hid (Lg W p met nu f fs ((hc :: t2) ++ (hd :: u2) ++ extC) E0 R Q) := hL
  have HHC : Hid (W.heap[hc]? = some (.cells cuC 33 (0, 0)) ∧ W.heap[hd]? = some (.cells cuD 33 (0, 0))) := ⟨hHc, hHd⟩
  have HTC : Hid (TF W (.slice none 0 0, .slice none 0 0, .slice (some ⟨hc, 0, none⟩) l4 c4, .slice (some ⟨hd, 0, none⟩) l4 d4) (t2 ++ u2) RC QC) := hTC
  have hl4' : (0 : Int) < (l4 : Int) := by omega
  clear hHc hHd hTC
  clear h hL A B
  go_enter Try.func53, Try.ntmps53
  go_wp2_with fail
  go_cut [63] (fun v wx => v = .bool false ∧ Below w.heap.size w wx)
  case first =>
    go_quiet (fail)
    go_wp2_with fail
    go_meet
    case rel => exact ⟨rfl, below_drewN (Below.refl _ _) _⟩
  case rest =>
    obtain ⟨rfl, hbc⟩ := hcut
    obtain ⟨w0, hw0⟩ : ∃ w, w = wc := ⟨_, rfl⟩
    rw [← hw0] at hbc ⊢
    have HS0 : Hid (Sw W w0 p met nu pv uv tv f fs K) := HS.out.later hbc
    clear hbc hw0 x0 x1 x2 x3 x4 y0 y1 y2 y3 y4 HS
    obtain ⟨z0, z1, z2, z3, z4⟩ := HS0.out.at5 HA.out.1 HA.out.2
    obtain ⟨v0, v1, v2, v3, v4⟩ := HS0.out.at5 HB.out.1 HB.out.2
    go_wp2_with fail
    go_cut [86] (fun v wx => v = .bool false ∧ Below w0.heap.size w0 wx)
    case first =>
      go_quiet (fail)
      go_wp2_with fail
      go_meet
      case rel => exact ⟨rfl, below_drewN (Below.refl _ _) _⟩
    case rest =>
      obtain ⟨rfl, hbc⟩ := hcut
      obtain ⟨w1, hw1⟩ : ∃ w, w = wc := ⟨_, rfl⟩
      rw [← hw1] at hbc ⊢
      have HS1 : Hid (Sw W w1 p (met) nu pv uv tv f (fs) K) := HS0.out.later hbc
      clear hbc hw1 z0 z1 z2 z3 z4 v0 v1 v2 v3 v4
      obtain ⟨z0, z1, z2, z3, z4⟩ := HS1.out.at5 HA.out.1 HA.out.2
      obtain ⟨v0, v1, v2, v3, v4⟩ := HS1.out.at5 HB.out.1 HB.out.2
      obtain ⟨fr1, fr2, fr3, fr4, fr5, fr6, fr7⟩ := HL0.out.fresh
      have HJ : Hid (∀ V : World, Below w1.heap.size w1 V → _) := fun V hV => joinX_new (HS1.out.later hV) hc l4 hd l4 _ _ _ _ HHC.out.1 HHC.out.2 fr1 fr2 fr3 fr4 fr5 fr6 fr7
      clear fr1 fr2 fr3 fr4 fr5 fr6 fr7
      go_wp2_with fail
      have hn0 := After.some w1
      have r3 := After.cell z4
      have s3 := After.cell v4
      refine wp_region_after_tail 20 (by kernel_rfl) (by kernel_rfl) ?_
      simp only [List.take_succ_cons, List.take_zero, List.drop_succ_cons, List.drop_zero]
      repeat (go_big_quiet_step (first | (go_at_call 82; with_reducible exact calls_after (clausesSpot_any hc 0 l4 c4 _ hl4 (by omega))) | (go_at_call 82; with_reducible exact calls_after (clausesSpot_any hd 0 l4 d4 _ hl4 (by omega)))))
      refine wpQuiet_nil ?_
      rintro _ ⟨nq, rfl⟩
      go_wp2_with fail
      refine (HJ.out nq.now nq.bel).mono ?_
      clear HJ
      rintro e w2 ⟨rfl, HQ⟩
      obtain ⟨nu5, pv5, uv5, f5, hS2, hnu, hf⟩ := HQ.out
      have HS2 : Hid (Sw W w2 p (met + 1) nu5 pv5 uv5 tv f5 fs K) := hS2
      have HFN : Hid (nu5 ≤ 2 * (met + 1) ∧ _) := ⟨hnu, hf⟩
      obtain ⟨e0, e1, e2, e3, e4⟩ := hS2.cells
      obtain ⟨z0, z1, z2, z3, z4⟩ := hS2.at5 HA.out.1 HA.out.2
      obtain ⟨v0, v1, v2, v3, v4⟩ := hS2.at5 HB.out.1 HB.out.2
      have hrow := hS2.todo
      have hp2 : p < w2.heap.size := Nat.lt_of_lt_of_le hS2.plt hS2.kept.size
      have hz2 : W.heap.size ≤ w2.heap.size := hS2.kept.size
      have hfs : (fs).length ≤ 16777216 := HL0.out.few
      obtain ⟨tva, tvl, tvc, rfl⟩ := own_slice hrow
      clear HQ hS2 r3 s3 hn0 hnu hf
      obtain ⟨j0, hj, hj0, hj1, hj2⟩ := info_parts Try.infoTwo
      have HAP : Hid (∀ (v' : Value) (w3 : World), w3.ownsRow W.heap.size 96 4 v' ((fs).length + 1) (tcells (fs) ++ [.slice none 0 0, .slice none 0 0, .slice (some ⟨hc, 0, none⟩) l4 c4, .slice (some ⟨hd, 0, none⟩) l4 d4]) → (w2.alloc (.cells #[.slice none 0 0, .slice none 0 0, .slice (some ⟨hc, 0, none⟩) l4 c4, .slice (some ⟨hd, 0, none⟩) l4 d4] 96)).drew.grownBy w3 (Value.slice tva tvl tvc).ownBlock → (v'.ownBlock = (Value.slice tva tvl tvc).ownBlock ∨ v'.ownBlock = some (w2.alloc (.cells #[.slice none 0 0, .slice none 0 0, .slice (some ⟨hc, 0, none⟩) l4 c4, .slice (some ⟨hd, 0, none⟩) l4 d4] 96)).drew.heap.size) →
          w3.cell? ⟨p, 3, none⟩ = some (.slice tva tvl tvc) ∧ w3.frozen? ⟨p, 3, none⟩ = false ∧ Hid (Sw W (w3.setCell ⟨p, 3, none⟩ v') p (met + 1) nu5 pv5 uv5 v' f5 ((.slice none 0 0, .slice none 0 0, .slice (some ⟨hc, 0, none⟩) l4 c4, .slice (some ⟨hd, 0, none⟩) l4 d4) :: fs) K)) := fun v' w3 h1 h2 h3 => by
        have hL := HS2.out.later ((Below.refl _ _).alloc (Nat.le_refl _) (.cells #[.slice none 0 0, .slice none 0 0, .slice (some ⟨hc, 0, none⟩) l4 c4, .slice (some ⟨hd, 0, none⟩) l4 d4] 96)).drew
        have hr := hL.rowTo h2
        exact ⟨by rw [cell_of_row w3 _ 3 _ _ _ hr]; rfl, frozen_of_row w3 _ _ _ _ hr, hL.pushed (fr := (_, _, _, _)) h1 h2 h3⟩
      go_wp2_with fail
      go_cut [143] (fun v wx => Hid (Sw W wx p (met + 1) nu5 pv5 uv5 v f5 ((.slice none 0 0, .slice none 0 0, .slice (some ⟨hc, 0, none⟩) l4 c4, .slice (some ⟨hd, 0, none⟩) l4 d4) :: fs) K))
      case first =>
        go_region_law (refine step_append_own rfl (.tmp 132) (.tmp 142) 91 rfl W.heap.size 96 j0 (.agg #[.slice none 0 0, .slice none 0 0, .slice none 0 0, .slice none 0 0]) 4 96 Try.underlying91 hj hj0 hj1 hj2 rfl (by decide) (.slice tva tvl tvc) (fs).length (tcells (fs)) (by simp [Act.eval]) (hrow.alloc _) ⟨w2.heap.size, 0, none⟩ 1 1 [.slice none 0 0, .slice none 0 0, .slice (some ⟨hc, 0, none⟩) l4 c4, .slice (some ⟨hd, 0, none⟩) l4 d4] (by simp [Act.eval]) rfl (four_cells w2 _ _ _ _ _) (by intro u hu; simp at hu; rcases hu with rfl | rfl | rfl | rfl <;> rfl) (by unfold maxLen; omega) (by omega) (by simp; omega) ?_; intro v' w3 hown3 hgrow3 hat3; obtain ⟨ta, tl, tc, rfl⟩ := own_slice hown3; obtain ⟨t1, t2, HS3⟩ := HAP.out _ _ hown3 hgrow3 hat3)
        all_goals
          clear hown3 hgrow3 hat3
          go_wp2_with fail
          go_meet
          case rel => exact HS3
      case rest =>
        obtain ⟨w5, hw5⟩ : ∃ w, w = wc := ⟨_, rfl⟩
        obtain ⟨tv5, htv5⟩ : ∃ v, v = u143 := ⟨_, rfl⟩
        have HS5 : Hid (Sw W w5 p (met + 1) nu5 pv5 uv5 tv5 f5 ((.slice none 0 0, .slice none 0 0, .slice (some ⟨hc, 0, none⟩) l4 c4, .slice (some ⟨hd, 0, none⟩) l4 d4) :: fs) K) := by rw [hw5, htv5]; exact hcut
        rw [← hw5]
        clear htv5
        have HL5 : Hid (Lg W p (met + 1) nu5 f5 ((.slice none 0 0, .slice none 0 0, .slice (some ⟨hc, 0, none⟩) l4 c4, .slice (some ⟨hd, 0, none⟩) l4 d4) :: fs) extC EC (RC + R) (QC ∧ Q)) := HL0.out.push HTC.out hEC HFN.out.1 HFN.out.2
        clear hcut hw5 HAP HS2 HFN hrow z0 z1 z2 z3 z4 v0 v1 v2 v3 v4 e0 e1 e2 e3 e4 hfs hp2 hz2 hj hj0 hj1 hj2
        go_wp2_with fail
        go_ret
        exact ⟨rfl, _, _, _, _, _, _, _, HS5.out, HL5.out⟩

end Go.Proofs.Ytpokheklplcamaa

/- The program's SameExpr: two expressions alike but for their lists (Sa10). -/
namespace Go.Proofs.Ytpokheklplcamaa
open Go.RowKit
set_option linter.unusedVariables false

set_option maxRecDepth 100000 in
set_option maxHeartbeats 8000000 in
theorem alike_ff (p ga oa gb ob : Nat) (k n : Int) (s : ByteArray) (ha hb l3 : Nat) (c3 d3 : Nat) (hc hd l4 : Nat) (c4 d4 : Nat) (W w : World) (A : Row5 W ga oa k n s (.slice (some ⟨ha, 0, none⟩) l3 c3) (.slice (some ⟨hc, 0, none⟩) l4 c4)) (B : Row5 W gb ob k n s (.slice (some ⟨hb, 0, none⟩) l3 d3) (.slice (some ⟨hd, 0, none⟩) l4 d4)) (hga : ga ≠ p) (hgb : gb ≠ p) (hl3 : 0 < l3) (q3 : l3 ≤ 1048576) (cuA cuB : Array Value) (hHa : W.heap[ha]? = some (.cells cuA 27 (0, 0))) (hHb : W.heap[hb]? = some (.cells cuB 27 (0, 0))) (t1 u1 : List Nat) (RE : Nat) (QE : Prop) (hTE : TF W (.slice (some ⟨ha, 0, none⟩) l3 c3, .slice (some ⟨hb, 0, none⟩) l3 d3, .slice none 0 0, .slice none 0 0) (t1 ++ u1) RE QE) (hl4 : 0 < l4) (q4 : l4 ≤ 1048576) (cuC cuD : Array Value) (hHc : W.heap[hc]? = some (.cells cuC 33 (0, 0))) (hHd : W.heap[hd]? = some (.cells cuD 33 (0, 0))) (t2 u2 : List Nat) (RC : Nat) (QC : Prop) (hTC : TF W (.slice none 0 0, .slice none 0 0, .slice (some ⟨hc, 0, none⟩) l4 c4, .slice (some ⟨hd, 0, none⟩) l4 d4) (t2 ++ u2) RC QC) (extC : List Nat) (E0 EE EC R : Nat) (Q : Prop) (hEE : EE + RE + 1 ≤ E0) (hEC : EC + RC + 1 ≤ EE) (met nu : Nat) (pv uv tv : Value) (f : Addr → Int → Option Value) (fs : List Tf) (K : List (Nat × Obj)) (h : Sw W w p met nu pv uv tv f fs K) (hL : Lg W p met nu f fs ((ha :: t1) ++ (hb :: u1) ++ ((hc :: t2) ++ (hd :: u2) ++ extC)) E0 R Q) :
    Calls Try.prog 53 #[.pointer (some ⟨p, 0, none⟩), .pointer (some ⟨ga, oa, none⟩), .pointer (some ⟨gb, ob, none⟩)] w fun e w' => e = .returned (.bool true) ∧ Hid (∃ met' nu' pv' uv' tv' f' fs', Sw W w' p met' nu' pv' uv' tv' f' fs' K ∧ Lg W p met' nu' f' fs' extC EC (RC + (RE + R)) (QC ∧ (QE ∧ Q))) := by
  obtain ⟨x0, x1, x2, x3, x4⟩ := h.at5 A hga
  obtain ⟨y0, y1, y2, y3, y4⟩ := h.at5 B hgb
  have HA : Hid (Row5 W ga oa k n s (.slice (some ⟨ha, 0, none⟩) l3 c3) (.slice (some ⟨hc, 0, none⟩) l4 c4) ∧ ga ≠ p) := ⟨A, hga⟩
  have HB : Hid (Row5 W gb ob k n s (.slice (some ⟨hb, 0, none⟩) l3 d3) (.slice (some ⟨hd, 0, none⟩) l4 d4) ∧ gb ≠ p) := ⟨B, hgb⟩
  have HS : Hid (Sw W w p met nu pv uv tv f fs K) := h
  have HL0 : Hid (Lg W p met nu f fs ((ha :: t1) ++ (hb :: u1) ++ ((hc :: t2) ++ (hd :: u2) ++ extC)) E0 R Q) := hL
  have HHE : Hid (W.heap[ha]? = some (.cells cuA 27 (0, 0)) ∧ W.heap[hb]? = some (.cells cuB 27 (0, 0))) := ⟨hHa, hHb⟩
  have HTE : Hid (TF W (.slice (some ⟨ha, 0, none⟩) l3 c3, .slice (some ⟨hb, 0, none⟩) l3 d3, .slice none 0 0, .slice none 0 0) (t1 ++ u1) RE QE) := hTE
  have hl3' : (0 : Int) < (l3 : Int) := by omega
  clear hHa hHb hTE
  have HHC : Hid (W.heap[hc]? = some (.cells cuC 33 (0, 0)) ∧ W.heap[hd]? = some (.cells cuD 33 (0, 0))) := ⟨hHc, hHd⟩
  have HTC : Hid (TF W (.slice none 0 0, .slice none 0 0, .slice (some ⟨hc, 0, none⟩) l4 c4, .slice (some ⟨hd, 0, none⟩) l4 d4) (t2 ++ u2) RC QC) := hTC
  have hl4' : (0 : Int) < (l4 : Int) := by omega
  clear hHc hHd hTC
  clear h hL A B
  go_enter Try.func53, Try.ntmps53
  go_wp2_with fail
  go_cut [63] (fun v wx => v = .bool false ∧ Below w.heap.size w wx)
  case first =>
    go_quiet (fail)
    go_wp2_with fail
    go_meet
    case rel => exact ⟨rfl, below_drewN (Below.refl _ _) _⟩
  case rest =>
    obtain ⟨rfl, hbc⟩ := hcut
    obtain ⟨w0, hw0⟩ : ∃ w, w = wc := ⟨_, rfl⟩
    rw [← hw0] at hbc ⊢
    have HS0 : Hid (Sw W w0 p met nu pv uv tv f fs K) := HS.out.later hbc
    clear hbc hw0 x0 x1 x2 x3 x4 y0 y1 y2 y3 y4 HS
    obtain ⟨z0, z1, z2, z3, z4⟩ := HS0.out.at5 HA.out.1 HA.out.2
    obtain ⟨v0, v1, v2, v3, v4⟩ := HS0.out.at5 HB.out.1 HB.out.2
    obtain ⟨fr1, fr2, fr3, fr4, fr5, fr6, fr7⟩ := HL0.out.fresh
    have HJ : Hid (∀ V : World, Below w0.heap.size w0 V → _) := fun V hV => joinX_new (HS0.out.later hV) ha l3 hb l3 _ _ _ _ HHE.out.1 HHE.out.2 fr1 fr2 fr3 fr4 fr5 fr6 fr7
    clear fr1 fr2 fr3 fr4 fr5 fr6 fr7
    go_wp2_with fail
    have hn0 := After.some w0
    have r3 := After.cell z3
    have s3 := After.cell v3
    refine wp_region_after_tail 20 (by kernel_rfl) (by kernel_rfl) ?_
    simp only [List.take_succ_cons, List.take_zero, List.drop_succ_cons, List.drop_zero]
    repeat (go_big_quiet_step (first | (go_at_call 75; with_reducible exact calls_after (spotOfX_any ha 0 l3 c3 _ hl3 (by omega))) | (go_at_call 75; with_reducible exact calls_after (spotOfX_any hb 0 l3 d3 _ hl3 (by omega)))))
    refine wpQuiet_nil ?_
    rintro _ ⟨nq, rfl⟩
    go_wp2_with fail
    refine (HJ.out nq.now nq.bel).mono ?_
    clear HJ
    rintro e w2 ⟨rfl, HQ⟩
    obtain ⟨nu1, pv1, uv1, f1, hS2, hnu, hf⟩ := HQ.out
    have HS2 : Hid (Sw W w2 p (met + 1) nu1 pv1 uv1 tv f1 fs K) := hS2
    have HFN : Hid (nu1 ≤ 2 * (met + 1) ∧ _) := ⟨hnu, hf⟩
    obtain ⟨e0, e1, e2, e3, e4⟩ := hS2.cells
    obtain ⟨z0, z1, z2, z3, z4⟩ := hS2.at5 HA.out.1 HA.out.2
    obtain ⟨v0, v1, v2, v3, v4⟩ := hS2.at5 HB.out.1 HB.out.2
    have hrow := hS2.todo
    have hp2 : p < w2.heap.size := Nat.lt_of_lt_of_le hS2.plt hS2.kept.size
    have hz2 : W.heap.size ≤ w2.heap.size := hS2.kept.size
    have hfs : (fs).length ≤ 16777216 := HL0.out.few
    obtain ⟨tva, tvl, tvc, rfl⟩ := own_slice hrow
    clear HQ hS2 r3 s3 hn0 hnu hf
    obtain ⟨j0, hj, hj0, hj1, hj2⟩ := info_parts Try.infoTwo
    have HAP : Hid (∀ (v' : Value) (w3 : World), w3.ownsRow W.heap.size 96 4 v' ((fs).length + 1) (tcells (fs) ++ [.slice (some ⟨ha, 0, none⟩) l3 c3, .slice (some ⟨hb, 0, none⟩) l3 d3, .slice none 0 0, .slice none 0 0]) → (w2.alloc (.cells #[.slice (some ⟨ha, 0, none⟩) l3 c3, .slice (some ⟨hb, 0, none⟩) l3 d3, .slice none 0 0, .slice none 0 0] 96)).drew.grownBy w3 (Value.slice tva tvl tvc).ownBlock → (v'.ownBlock = (Value.slice tva tvl tvc).ownBlock ∨ v'.ownBlock = some (w2.alloc (.cells #[.slice (some ⟨ha, 0, none⟩) l3 c3, .slice (some ⟨hb, 0, none⟩) l3 d3, .slice none 0 0, .slice none 0 0] 96)).drew.heap.size) →
        w3.cell? ⟨p, 3, none⟩ = some (.slice tva tvl tvc) ∧ w3.frozen? ⟨p, 3, none⟩ = false ∧ Hid (Sw W (w3.setCell ⟨p, 3, none⟩ v') p (met + 1) nu1 pv1 uv1 v' f1 ((.slice (some ⟨ha, 0, none⟩) l3 c3, .slice (some ⟨hb, 0, none⟩) l3 d3, .slice none 0 0, .slice none 0 0) :: fs) K)) := fun v' w3 h1 h2 h3 => by
      have hL := HS2.out.later ((Below.refl _ _).alloc (Nat.le_refl _) (.cells #[.slice (some ⟨ha, 0, none⟩) l3 c3, .slice (some ⟨hb, 0, none⟩) l3 d3, .slice none 0 0, .slice none 0 0] 96)).drew
      have hr := hL.rowTo h2
      exact ⟨by rw [cell_of_row w3 _ 3 _ _ _ hr]; rfl, frozen_of_row w3 _ _ _ _ hr, hL.pushed (fr := (_, _, _, _)) h1 h2 h3⟩
    go_wp2_with fail
    go_cut [102] (fun v wx => Hid (Sw W wx p (met + 1) nu1 pv1 uv1 v f1 ((.slice (some ⟨ha, 0, none⟩) l3 c3, .slice (some ⟨hb, 0, none⟩) l3 d3, .slice none 0 0, .slice none 0 0) :: fs) K))
    case first =>
      go_region_law (refine step_append_own rfl (.tmp 91) (.tmp 101) 91 rfl W.heap.size 96 j0 (.agg #[.slice none 0 0, .slice none 0 0, .slice none 0 0, .slice none 0 0]) 4 96 Try.underlying91 hj hj0 hj1 hj2 rfl (by decide) (.slice tva tvl tvc) (fs).length (tcells (fs)) (by simp [Act.eval]) (hrow.alloc _) ⟨w2.heap.size, 0, none⟩ 1 1 [.slice (some ⟨ha, 0, none⟩) l3 c3, .slice (some ⟨hb, 0, none⟩) l3 d3, .slice none 0 0, .slice none 0 0] (by simp [Act.eval]) rfl (four_cells w2 _ _ _ _ _) (by intro u hu; simp at hu; rcases hu with rfl | rfl | rfl | rfl <;> rfl) (by unfold maxLen; omega) (by omega) (by simp; omega) ?_; intro v' w3 hown3 hgrow3 hat3; obtain ⟨ta, tl, tc, rfl⟩ := own_slice hown3; obtain ⟨t1, t2, HS3⟩ := HAP.out _ _ hown3 hgrow3 hat3)
      all_goals
        clear hown3 hgrow3 hat3
        go_wp2_with fail
        go_meet
        case rel => exact HS3
    case rest =>
      obtain ⟨w1, hw1⟩ : ∃ w, w = wc := ⟨_, rfl⟩
      obtain ⟨tv1, htv1⟩ : ∃ v, v = u102 := ⟨_, rfl⟩
      have HS1 : Hid (Sw W w1 p (met + 1) nu1 pv1 uv1 tv1 f1 ((.slice (some ⟨ha, 0, none⟩) l3 c3, .slice (some ⟨hb, 0, none⟩) l3 d3, .slice none 0 0, .slice none 0 0) :: fs) K) := by rw [hw1, htv1]; exact hcut
      rw [← hw1]
      clear htv1
      have HL1 : Hid (Lg W p (met + 1) nu1 f1 ((.slice (some ⟨ha, 0, none⟩) l3 c3, .slice (some ⟨hb, 0, none⟩) l3 d3, .slice none 0 0, .slice none 0 0) :: fs) ((hc :: t2) ++ (hd :: u2) ++ extC) EE (RE + R) (QE ∧ Q)) := HL0.out.push HTE.out hEE HFN.out.1 HFN.out.2
      clear hcut hw1 HAP HS2 HFN hrow z0 z1 z2 z3 z4 v0 v1 v2 v3 v4 e0 e1 e2 e3 e4 hfs hp2 hz2 hj hj0 hj1 hj2
      obtain ⟨z0, z1, z2, z3, z4⟩ := HS1.out.at5 HA.out.1 HA.out.2
      obtain ⟨v0, v1, v2, v3, v4⟩ := HS1.out.at5 HB.out.1 HB.out.2
      obtain ⟨fr1, fr2, fr3, fr4, fr5, fr6, fr7⟩ := HL1.out.fresh
      have HJ : Hid (∀ V : World, Below w1.heap.size w1 V → _) := fun V hV => joinX_new (HS1.out.later hV) hc l4 hd l4 _ _ _ _ HHC.out.1 HHC.out.2 fr1 fr2 fr3 fr4 fr5 fr6 fr7
      clear fr1 fr2 fr3 fr4 fr5 fr6 fr7
      go_wp2_with fail
      have hn0 := After.some w1
      have r3 := After.cell z4
      have s3 := After.cell v4
      refine wp_region_after_tail 20 (by kernel_rfl) (by kernel_rfl) ?_
      simp only [List.take_succ_cons, List.take_zero, List.drop_succ_cons, List.drop_zero]
      repeat (go_big_quiet_step (first | (go_at_call 82; with_reducible exact calls_after (clausesSpot_any hc 0 l4 c4 _ hl4 (by omega))) | (go_at_call 82; with_reducible exact calls_after (clausesSpot_any hd 0 l4 d4 _ hl4 (by omega)))))
      refine wpQuiet_nil ?_
      rintro _ ⟨nq, rfl⟩
      go_wp2_with fail
      refine (HJ.out nq.now nq.bel).mono ?_
      clear HJ
      rintro e w2 ⟨rfl, HQ⟩
      obtain ⟨nu5, pv5, uv5, f5, hS2, hnu, hf⟩ := HQ.out
      have HS2 : Hid (Sw W w2 p ((met + 1) + 1) nu5 pv5 uv5 tv1 f5 ((.slice (some ⟨ha, 0, none⟩) l3 c3, .slice (some ⟨hb, 0, none⟩) l3 d3, .slice none 0 0, .slice none 0 0) :: fs) K) := hS2
      have HFN : Hid (nu5 ≤ 2 * ((met + 1) + 1) ∧ _) := ⟨hnu, hf⟩
      obtain ⟨e0, e1, e2, e3, e4⟩ := hS2.cells
      obtain ⟨z0, z1, z2, z3, z4⟩ := hS2.at5 HA.out.1 HA.out.2
      obtain ⟨v0, v1, v2, v3, v4⟩ := hS2.at5 HB.out.1 HB.out.2
      have hrow := hS2.todo
      have hp2 : p < w2.heap.size := Nat.lt_of_lt_of_le hS2.plt hS2.kept.size
      have hz2 : W.heap.size ≤ w2.heap.size := hS2.kept.size
      have hfs : (((.slice (some ⟨ha, 0, none⟩) l3 c3, .slice (some ⟨hb, 0, none⟩) l3 d3, .slice none 0 0, .slice none 0 0) :: fs)).length ≤ 16777216 := HL1.out.few
      obtain ⟨tva, tvl, tvc, rfl⟩ := own_slice hrow
      clear HQ hS2 r3 s3 hn0 hnu hf
      obtain ⟨j0, hj, hj0, hj1, hj2⟩ := info_parts Try.infoTwo
      have HAP : Hid (∀ (v' : Value) (w3 : World), w3.ownsRow W.heap.size 96 4 v' ((((.slice (some ⟨ha, 0, none⟩) l3 c3, .slice (some ⟨hb, 0, none⟩) l3 d3, .slice none 0 0, .slice none 0 0) :: fs)).length + 1) (tcells (((.slice (some ⟨ha, 0, none⟩) l3 c3, .slice (some ⟨hb, 0, none⟩) l3 d3, .slice none 0 0, .slice none 0 0) :: fs)) ++ [.slice none 0 0, .slice none 0 0, .slice (some ⟨hc, 0, none⟩) l4 c4, .slice (some ⟨hd, 0, none⟩) l4 d4]) → (w2.alloc (.cells #[.slice none 0 0, .slice none 0 0, .slice (some ⟨hc, 0, none⟩) l4 c4, .slice (some ⟨hd, 0, none⟩) l4 d4] 96)).drew.grownBy w3 (Value.slice tva tvl tvc).ownBlock → (v'.ownBlock = (Value.slice tva tvl tvc).ownBlock ∨ v'.ownBlock = some (w2.alloc (.cells #[.slice none 0 0, .slice none 0 0, .slice (some ⟨hc, 0, none⟩) l4 c4, .slice (some ⟨hd, 0, none⟩) l4 d4] 96)).drew.heap.size) →
          w3.cell? ⟨p, 3, none⟩ = some (.slice tva tvl tvc) ∧ w3.frozen? ⟨p, 3, none⟩ = false ∧ Hid (Sw W (w3.setCell ⟨p, 3, none⟩ v') p ((met + 1) + 1) nu5 pv5 uv5 v' f5 ((.slice none 0 0, .slice none 0 0, .slice (some ⟨hc, 0, none⟩) l4 c4, .slice (some ⟨hd, 0, none⟩) l4 d4) :: ((.slice (some ⟨ha, 0, none⟩) l3 c3, .slice (some ⟨hb, 0, none⟩) l3 d3, .slice none 0 0, .slice none 0 0) :: fs)) K)) := fun v' w3 h1 h2 h3 => by
        have hL := HS2.out.later ((Below.refl _ _).alloc (Nat.le_refl _) (.cells #[.slice none 0 0, .slice none 0 0, .slice (some ⟨hc, 0, none⟩) l4 c4, .slice (some ⟨hd, 0, none⟩) l4 d4] 96)).drew
        have hr := hL.rowTo h2
        exact ⟨by rw [cell_of_row w3 _ 3 _ _ _ hr]; rfl, frozen_of_row w3 _ _ _ _ hr, hL.pushed (fr := (_, _, _, _)) h1 h2 h3⟩
      go_wp2_with fail
      go_cut [143] (fun v wx => Hid (Sw W wx p ((met + 1) + 1) nu5 pv5 uv5 v f5 ((.slice none 0 0, .slice none 0 0, .slice (some ⟨hc, 0, none⟩) l4 c4, .slice (some ⟨hd, 0, none⟩) l4 d4) :: ((.slice (some ⟨ha, 0, none⟩) l3 c3, .slice (some ⟨hb, 0, none⟩) l3 d3, .slice none 0 0, .slice none 0 0) :: fs)) K))
      case first =>
        go_region_law (refine step_append_own rfl (.tmp 132) (.tmp 142) 91 rfl W.heap.size 96 j0 (.agg #[.slice none 0 0, .slice none 0 0, .slice none 0 0, .slice none 0 0]) 4 96 Try.underlying91 hj hj0 hj1 hj2 rfl (by decide) (.slice tva tvl tvc) (((.slice (some ⟨ha, 0, none⟩) l3 c3, .slice (some ⟨hb, 0, none⟩) l3 d3, .slice none 0 0, .slice none 0 0) :: fs)).length (tcells (((.slice (some ⟨ha, 0, none⟩) l3 c3, .slice (some ⟨hb, 0, none⟩) l3 d3, .slice none 0 0, .slice none 0 0) :: fs))) (by simp [Act.eval]) (hrow.alloc _) ⟨w2.heap.size, 0, none⟩ 1 1 [.slice none 0 0, .slice none 0 0, .slice (some ⟨hc, 0, none⟩) l4 c4, .slice (some ⟨hd, 0, none⟩) l4 d4] (by simp [Act.eval]) rfl (four_cells w2 _ _ _ _ _) (by intro u hu; simp at hu; rcases hu with rfl | rfl | rfl | rfl <;> rfl) (by unfold maxLen; omega) (by omega) (by simp; omega) ?_; intro v' w3 hown3 hgrow3 hat3; obtain ⟨ta, tl, tc, rfl⟩ := own_slice hown3; obtain ⟨t1, t2, HS3⟩ := HAP.out _ _ hown3 hgrow3 hat3)
        all_goals
          clear hown3 hgrow3 hat3
          go_wp2_with fail
          go_meet
          case rel => exact HS3
      case rest =>
        obtain ⟨w5, hw5⟩ : ∃ w, w = wc := ⟨_, rfl⟩
        obtain ⟨tv5, htv5⟩ : ∃ v, v = u143 := ⟨_, rfl⟩
        have HS5 : Hid (Sw W w5 p ((met + 1) + 1) nu5 pv5 uv5 tv5 f5 ((.slice none 0 0, .slice none 0 0, .slice (some ⟨hc, 0, none⟩) l4 c4, .slice (some ⟨hd, 0, none⟩) l4 d4) :: ((.slice (some ⟨ha, 0, none⟩) l3 c3, .slice (some ⟨hb, 0, none⟩) l3 d3, .slice none 0 0, .slice none 0 0) :: fs)) K) := by rw [hw5, htv5]; exact hcut
        rw [← hw5]
        clear htv5
        have HL5 : Hid (Lg W p ((met + 1) + 1) nu5 f5 ((.slice none 0 0, .slice none 0 0, .slice (some ⟨hc, 0, none⟩) l4 c4, .slice (some ⟨hd, 0, none⟩) l4 d4) :: ((.slice (some ⟨ha, 0, none⟩) l3 c3, .slice (some ⟨hb, 0, none⟩) l3 d3, .slice none 0 0, .slice none 0 0) :: fs)) extC EC (RC + (RE + R)) (QC ∧ (QE ∧ Q))) := HL1.out.push HTC.out hEC HFN.out.1 HFN.out.2
        clear hcut hw5 HAP HS2 HFN hrow z0 z1 z2 z3 z4 v0 v1 v2 v3 v4 e0 e1 e2 e3 e4 hfs hp2 hz2 hj hj0 hj1 hj2
        go_wp2_with fail
        go_ret
        exact ⟨rfl, _, _, _, _, _, _, _, HS5.out, HL5.out⟩

end Go.Proofs.Ytpokheklplcamaa

/- The program's SameExpr: two expressions held against each other, but for their lists, which are put to what is to come. -/
namespace Go.Proofs.Ytpokheklplcamaa
open Go.RowKit
set_option linter.unusedVariables false

theorem own_full {α : Type} {k : Nat} {T : TypeId} {O : World → List Value → α → List Nat → Prop} {W : World} {v : Value} {xs : List α} {f : List Nat} (h : OwnRow k T O W v xs f) (h0 : 0 < xs.length) : ∃ g c cur, v = .slice (some ⟨g, 0, none⟩) xs.length c ∧ W.heap[g]? = some (.cells cur T (0, 0)) ∧ f = g :: f.tail := by
  rcases h with ⟨e, _⟩ | ⟨g, c, cur, fps, q1, q2, q3, q4, q5⟩
  · rw [e] at h0; simp at h0
  · exact ⟨g, c, cur, q1, q2, by rw [q4]; rfl⟩
theorem own_none {α : Type} {k : Nat} {T : TypeId} {O : World → List Value → α → List Nat → Prop} {W : World} {v : Value} {xs : List α} {f : List Nat} (h : OwnRow k T O W v xs f) (h0 : xs.length = 0) : ∃ a c, v = .slice a 0 c := by
  rcases h with ⟨_, _, a, c, e⟩ | ⟨g, c, cur, fps, q1, q2, q3, q4, q5⟩
  · exact ⟨a, c, e⟩
  · exact ⟨_, c, by rw [q1, h0]⟩
theorem own_len {α : Type} {k : Nat} {T : TypeId} {O : World → List Value → α → List Nat → Prop} {W : World} {v : Value} {xs : List α} {f : List Nat} (h : OwnRow k T O W v xs f) : ∃ a c, v = .slice a xs.length c := by
  rcases h with ⟨e0, _, a, c, e⟩ | ⟨g, c, cur, fps, q1, q2, q3, q4, q5⟩
  · exact ⟨a, c, by rw [e, e0]; rfl⟩
  · exact ⟨_, c, q1⟩

/-- Whether two are alike but for what is in their lists. -/
def HdP : (d : Nat) → Ex d → Ex d → Prop
  | 0, _, _ => False
  | d + 1, a, b => a.K = b.K ∧ a.N = b.N ∧ a.S = b.S ∧ a.E.length = b.E.length ∧ a.C.length = b.C.length
noncomputable def hdEq (d : Nat) (a b : Ex d) : Bool := @decide (HdP d a b) (Classical.propDecidable _)
theorem hdEq_yes {d : Nat} {a b : Ex d} (h : HdP d a b) : true = hdEq d a b := by unfold hdEq; exact (@decide_eq_true _ (Classical.propDecidable _) h).symm
theorem hdEq_no {d : Nat} {a b : Ex d} (h : ¬ HdP d a b) : false = hdEq d a b := by unfold hdEq; exact (@decide_eq_false _ (Classical.propDecidable _) h).symm

def AlPost (W : World) (p : Nat) (ext : List Nat) (E R : Nat) (Q : Prop) (K : List (Nat × Obj)) (wk : Nat) (eq : Prop) (w w' : World) (r : Bool) : Prop :=
  (r = true ∧ ∃ met' nu' pv' uv' tv' f' fs' R' Q', Sw W w' p met' nu' pv' uv' tv' f' fs' K ∧ Lg W p met' nu' f' fs' ext E R' Q' ∧ R' < R + wk ∧ (Q' ↔ eq ∧ Q)) ∨ (r = false ∧ ¬ eq ∧ Below w.heap.size w w')

theorem alike_any (d : Nat) (W w : World) (p : Nat) (vs us : List Value) (a b : Ex d) (fa fb ext : List Nat) (oa' : ExO d W vs a fa) (ob' : ExO d W us b fb) (hz : szX d a ≤ 1048576) (hz' : szX d b ≤ 1048576) (ga oa gb ob : Nat)
    (ra : ∃ cur t, W.heap[ga]? = some (.cells cur t (0, 0)) ∧ ∀ (j : Nat) (u : Value), vs[j]? = some u → cur[oa + j]? = some u) (rb : ∃ cur t, W.heap[gb]? = some (.cells cur t (0, 0)) ∧ ∀ (j : Nat) (u : Value), us[j]? = some u → cur[ob + j]? = some u) (hga : ga ≠ p) (hgb : gb ≠ p)
    (E R : Nat) (Q : Prop) (met nu : Nat) (pv uv tv : Value) (f : Addr → Int → Option Value) (fs : List Tf) (K : List (Nat × Obj)) (h : Sw W w p met nu pv uv tv f fs K) (hL : Lg W p met nu f fs (fa ++ fb ++ ext) (wkS d a + E) R Q) :
    Calls Try.prog 53 #[.pointer (some ⟨p, 0, none⟩), .pointer (some ⟨ga, oa, none⟩), .pointer (some ⟨gb, ob, none⟩)] w fun e w' => ∃ r : Bool, e = .returned (.bool r) ∧ r = hdEq d a b ∧ Hid (AlPost W p ext E R Q K (wkS d a) (a = b) w w' r) := by
  cases d with
  | zero => exact oa'.elim
  | succ d =>
    obtain ⟨ve, vc, f1, f2, rfl, rfl, o1, o2⟩ := oa'
    obtain ⟨ue, uc, g1, g2, rfl, rfl, p1, p2⟩ := ob'
    have hz1 : a.S.size + szRow (szX d) a.E + szRow (ClF (szX d)) a.C ≤ 1048576 := hz
    have hz2 : b.S.size + szRow (szX d) b.E + szRow (ClF (szX d)) b.C ≤ 1048576 := hz'
    have n1 : a.E.length ≤ szRow (szX d) a.E := Nat.le_add_right _ _
    have n2 : a.C.length ≤ szRow (ClF (szX d)) a.C := Nat.le_add_right _ _
    have n3 : b.E.length ≤ szRow (szX d) b.E := Nat.le_add_right _ _
    have n4 : b.C.length ≤ szRow (ClF (szX d)) b.C := Nat.le_add_right _ _
    obtain ⟨ca, ta, hra, hca⟩ := ra
    obtain ⟨cb, tb, hrb, hcb⟩ := rb
    have A : Row5 W ga oa a.K a.N a.S ve vc := ⟨ca, ta, hra, hca 0 _ rfl, hca 1 _ rfl, hca 2 _ rfl, hca 3 _ rfl, hca 4 _ rfl⟩
    have B : Row5 W gb ob b.K b.N b.S ue uc := ⟨cb, tb, hrb, hcb 0 _ rfl, hcb 1 _ rfl, hcb 2 _ rfl, hcb 3 _ rfl, hcb 4 _ rfl⟩
    by_cases hh : a.K = b.K ∧ a.N = b.N ∧ a.S = b.S ∧ a.E.length = b.E.length ∧ a.C.length = b.C.length
    case neg =>
      obtain ⟨a3, c3, rfl⟩ := own_len o1
      obtain ⟨a4, c4, rfl⟩ := own_len o2
      obtain ⟨b3, d3, rfl⟩ := own_len p1
      obtain ⟨b4, d4, rfl⟩ := own_len p2
      refine (alikeX_no p ga oa gb ob _ _ _ a3 _ c3 a4 _ c4 _ _ _ b3 _ d3 b4 _ d4 w (h.at5 A hga) (h.at5 B hgb) (by omega) (by omega) (by omega) (by omega) hh).mono ?_
      rintro e w' ⟨rfl, hb⟩
      exact ⟨false, rfl, hdEq_no (d := d + 1) hh, .inr ⟨rfl, fun e => hh (by subst e; exact ⟨rfl, rfl, rfl, rfl, rfl⟩), hb⟩⟩
    have hyes := hdEq_yes (d := d + 1) hh
    obtain ⟨k0, k1, k2, k3, k4⟩ := hh
    rw [← k0, ← k1, ← k2] at B
    obtain ⟨sE, hsE⟩ : ∃ s, (a.E.map (wkS d)).sum = s := ⟨_, rfl⟩
    obtain ⟨sC, hsC⟩ : ∃ s, (a.C.map (ClF (wkS d))).sum = s := ⟨_, rfl⟩
    have hwk : wkS (d + 1) a = 4 + sE + sC := by rw [← hsE, ← hsC]; rfl
    rw [hwk] at hL ⊢
    have hiff : a = b ↔ a.E = b.E ∧ a.C = b.C := ⟨fun e => by rw [e]; exact ⟨rfl, rfl⟩, fun e => Ex.ext k0 k1 k2 e.1 e.2⟩
    have nilE : a.E.length = 0 → a.E = b.E := fun e => by rw [List.length_eq_zero_iff.1 e, List.length_eq_zero_iff.1 (k3.symm.trans e)]
    have nilC : a.C.length = 0 → a.C = b.C := fun e => by rw [List.length_eq_zero_iff.1 e, List.length_eq_zero_iff.1 (k4.symm.trans e)]
    by_cases hE : a.E.length = 0
    · obtain ⟨a3, c3, rfl⟩ := own_none o1 hE
      obtain ⟨b3, d3, rfl⟩ := own_none p1 (by omega)
      by_cases hC : a.C.length = 0
      · obtain ⟨a4, c4, rfl⟩ := own_none o2 hC
        obtain ⟨b4, d4, rfl⟩ := own_none p2 (by omega)
        refine (alike_ee p ga oa gb ob _ _ _ a3 b3 c3 d3 a4 b4 c4 d4 W w A B hga hgb ext E R Q met nu pv uv tv f fs K h (hL.less (by omega) (fun g => by simp only [List.count_append]; omega))).mono ?_
        rintro e w' ⟨rfl, HQ⟩
        obtain ⟨met', nu', pv', uv', tv', f', fs', q1, q2⟩ := HQ.out
        exact ⟨true, rfl, hyes, .inl ⟨rfl, met', nu', pv', uv', tv', f', fs', _, _, q1, q2, by omega, by rw [hiff]; exact ⟨fun q => ⟨⟨nilE hE, nilC hC⟩, q⟩, fun q => q.2⟩⟩⟩
      · obtain ⟨hc, c4, cuC, rfl, hHc, hf2⟩ := own_full o2 (by omega)
        obtain ⟨hd, d4, cuD, rfl, hHd, hg2⟩ := own_full p2 (by omega)
        rw [← k4] at B p2
        have hT : TF W (.slice none 0 0, .slice none 0 0, .slice (some ⟨hc, 0, none⟩) a.C.length c4, .slice (some ⟨hd, 0, none⟩) a.C.length d4) (f2.tail ++ g2.tail) (1 + sC) (a.C = b.C) := ⟨d, .inr ⟨⟨a.C, b.C, f2, g2, o2, p2, k4, by omega, by omega, by omega, rfl, by rw [hsC], Iff.rfl⟩, rfl, rfl⟩⟩
        refine (alike_ef p ga oa gb ob _ _ _ a3 b3 c3 d3 hc hd _ c4 d4 W w A B hga hgb (by omega) (by omega) cuC cuD hHc hHd f2.tail g2.tail _ _ hT ext (4 + sE + sC + E) E R Q (by omega) met nu pv uv tv f fs K h (by rw [← hf2, ← hg2]; exact hL.less (by omega) (fun g => by simp only [List.count_append]; omega))).mono ?_
        rintro e w' ⟨rfl, HQ⟩
        obtain ⟨met', nu', pv', uv', tv', f', fs', q1, q2⟩ := HQ.out
        exact ⟨true, rfl, hyes, .inl ⟨rfl, met', nu', pv', uv', tv', f', fs', _, _, q1, q2, by omega, by rw [hiff]; exact ⟨fun q => ⟨⟨nilE hE, q.1⟩, q.2⟩, fun q => ⟨q.1.2, q.2⟩⟩⟩⟩
    · obtain ⟨ha, c3, cuA, rfl, hHa, hf1⟩ := own_full o1 (by omega)
      obtain ⟨hb, d3, cuB, rfl, hHb, hg1⟩ := own_full p1 (by omega)
      rw [← k3] at B p1
      have hT1 : TF W (.slice (some ⟨ha, 0, none⟩) a.E.length c3, .slice (some ⟨hb, 0, none⟩) a.E.length d3, .slice none 0 0, .slice none 0 0) (f1.tail ++ g1.tail) (1 + sE) (a.E = b.E) := ⟨d, .inl ⟨⟨a.E, b.E, f1, g1, o1, p1, k3, by omega, by omega, by omega, rfl, by rw [hsE], Iff.rfl⟩, rfl, rfl⟩⟩
      by_cases hC : a.C.length = 0
      · obtain ⟨a4, c4, rfl⟩ := own_none o2 hC
        obtain ⟨b4, d4, rfl⟩ := own_none p2 (by omega)
        refine (alike_fe p ga oa gb ob _ _ _ ha hb _ c3 d3 a4 b4 c4 d4 W w A B hga hgb (by omega) (by omega) cuA cuB hHa hHb f1.tail g1.tail _ _ hT1 ext (4 + sE + sC + E) E R Q (by omega) met nu pv uv tv f fs K h (by rw [← hf1, ← hg1]; exact hL.less (by omega) (fun g => by simp only [List.count_append]; omega))).mono ?_
        rintro e w' ⟨rfl, HQ⟩
        obtain ⟨met', nu', pv', uv', tv', f', fs', q1, q2⟩ := HQ.out
        exact ⟨true, rfl, hyes, .inl ⟨rfl, met', nu', pv', uv', tv', f', fs', _, _, q1, q2, by omega, by rw [hiff]; exact ⟨fun q => ⟨⟨q.1, nilC hC⟩, q.2⟩, fun q => ⟨q.1.1, q.2⟩⟩⟩⟩
      · obtain ⟨hc, c4, cuC, rfl, hHc, hf2⟩ := own_full o2 (by omega)
        obtain ⟨hd, d4, cuD, rfl, hHd, hg2⟩ := own_full p2 (by omega)
        rw [← k4] at B p2
        have hT : TF W (.slice none 0 0, .slice none 0 0, .slice (some ⟨hc, 0, none⟩) a.C.length c4, .slice (some ⟨hd, 0, none⟩) a.C.length d4) (f2.tail ++ g2.tail) (1 + sC) (a.C = b.C) := ⟨d, .inr ⟨⟨a.C, b.C, f2, g2, o2, p2, k4, by omega, by omega, by omega, rfl, by rw [hsC], Iff.rfl⟩, rfl, rfl⟩⟩
        refine (alike_ff p ga oa gb ob _ _ _ ha hb _ c3 d3 hc hd _ c4 d4 W w A B hga hgb (by omega) (by omega) cuA cuB hHa hHb f1.tail g1.tail _ _ hT1 (by omega) (by omega) cuC cuD hHc hHd f2.tail g2.tail _ _ hT ext (4 + sE + sC + E) (2 + sC + E) E R Q (by omega) (by omega) met nu pv uv tv f fs K h (by rw [← hf1, ← hg1, ← hf2, ← hg2]; exact hL.less (by omega) (fun g => by simp only [List.count_append]; omega))).mono ?_
        rintro e w' ⟨rfl, HQ⟩
        obtain ⟨met', nu', pv', uv', tv', f', fs', q1, q2⟩ := HQ.out
        exact ⟨true, rfl, hyes, .inl ⟨rfl, met', nu', pv', uv', tv', f', fs', _, _, q1, q2, by omega, by rw [hiff]; exact ⟨fun q => ⟨⟨q.2.1, q.1⟩, q.2.2⟩, fun q => ⟨q.1.2, q.1.1, q.2⟩⟩⟩⟩

end Go.Proofs.Ytpokheklplcamaa
