/- The program's SameExpr, whole. -/
import Derived.Test.YtpokheklplcamaaSa14M
import Derived.Test.YtpokheklplcamaaMOf4M
import Derived.BigRegion
import Derived.Deep.DeepCutAuto
import Derived.Test.YtpokheklplcamaaRowClauseM
namespace Go.Proofs.Ytpokheklplcamaa
open Go.RowKit
set_option linter.unusedVariables false

theorem three_new (w W : World) (cA cB cP : Array Value) (t1 t2 t3 : TypeId) (hW : W = ((w.alloc (.cells cA t1)).alloc (.cells cB t2)).alloc (.cells cP t3)) : W.heap.size = w.heap.size + 3 ∧ Below w.heap.size w W ∧ W.heap[w.heap.size]? = some (.cells cA t1 (0, 0)) ∧ W.heap[w.heap.size + 1]? = some (.cells cB t2 (0, 0)) ∧ W.heap[w.heap.size + 1 + 1]? = some (.cells cP t3 (0, 0)) := by
  obtain ⟨w1, h1⟩ : ∃ w1, w1 = w.alloc (.cells cA t1) := ⟨_, rfl⟩
  obtain ⟨w2, h2⟩ : ∃ w2, w2 = w1.alloc (.cells cB t2) := ⟨_, rfl⟩
  have s1 : w1.heap.size = w.heap.size + 1 := by rw [h1]; simp
  have s2 : w2.heap.size = w.heap.size + 1 + 1 := by rw [h2]; simp [s1]
  have b1 : Below w.heap.size w w1 := by rw [h1]; exact (Below.refl _ _).alloc (Nat.le_refl _) _
  have b2 : Below w1.heap.size w1 w2 := by rw [h2]; exact (Below.refl _ _).alloc (Nat.le_refl _) _
  have b3 : Below w2.heap.size w2 W := by rw [hW, h2, h1]; exact (Below.refl _ _).alloc (Nat.le_refl _) _
  have s3 : W.heap.size = w.heap.size + 3 := by
    have : W = w2.alloc (.cells cP t3) := by rw [hW, h2, h1]
    rw [this]; simp [s2]
  have n1 : w1.heap[w.heap.size]? = some (.cells cA t1 (0, 0)) := by rw [h1]; exact heap_alloc_new w _
  have n2 : w2.heap[w.heap.size + 1]? = some (.cells cB t2 (0, 0)) := by rw [h2, ← s1]; exact heap_alloc_new w1 _
  have n3 : W.heap[w.heap.size + 1 + 1]? = some (.cells cP t3 (0, 0)) := by
    have : W = w2.alloc (.cells cP t3) := by rw [hW, h2, h1]
    rw [this, ← s2]; exact heap_alloc_new w2 _
  refine ⟨s3, (b1.trans (b2.mono b1.size)).trans (b3.mono (by omega)), ?_, ?_, n3⟩
  · rw [b3.block _ (by omega), b2.block _ (by omega)]; exact n1
  · rw [b3.block _ (by omega)]; exact n2

theorem TF.shape {W : World} {v1 v2 v3 v4 : Value} {rem : List Nat} {R : Nat} {Q : Prop} (h : TF W (v1, v2, v3, v4) rem R Q) : ∃ b1 l1 c1 b2 l2 c2 b3 l3 c3 b4 l4 c4, v1 = .slice b1 l1 c1 ∧ v2 = .slice b2 l2 c2 ∧ v3 = .slice b3 l3 c3 ∧ v4 = .slice b4 l4 c4 := by
  obtain ⟨d, ⟨⟨xs, ys, f1, f2, o1, o2, _⟩, e3, e4⟩ | ⟨⟨xs, ys, f1, f2, o1, o2, _⟩, e3, e4⟩⟩ := h
  · obtain ⟨b1, c1, h1⟩ := own_len o1
    obtain ⟨b2, c2, h2⟩ := own_len o2
    exact ⟨_, _, _, _, _, _, _, _, _, _, _, _, h1, h2, e3, e4⟩
  · obtain ⟨b1, c1, h1⟩ := own_len o1
    obtain ⟨b2, c2, h2⟩ := own_len o2
    exact ⟨_, _, _, _, _, _, _, _, _, _, _, _, e3, e4, h1, h2⟩

theorem SI.low {W w wr : World} {p : Nat} (hk : Kept p (p + 1) W wr) (hb : Below w.heap.size w W) (hp : w.heap.size ≤ p) (hW : W.heap.size = p + 1) : Below w.heap.size w wr :=
  ⟨hk.os.trans hb.os, hk.tape.trans hb.tape, hk.output.trans hb.output, Nat.le_trans hb.size hk.size, fun g hg => (hk.block g (by have := hb.size; omega) (by omega)).trans (hb.block g hg)⟩

set_option maxRecDepth 100000 in
set_option maxHeartbeats 4000000 in
theorem sameExpr_any (d : Nat) (w : World) (vs us : List Value) (a b : Ex d) (fa fb : List Nat) (oa : ExO d w vs a fa) (ob : ExO d w us b fb) (hnd : ∀ g, (fa ++ fb).count g ≤ 1) (hlt : ∀ g ∈ fa ++ fb, g < w.heap.size) (hz : szX d a ≤ 1048576) (hz' : szX d b ≤ 1048576) :
    Calls Try.prog 27 #[.agg vs.toArray, .agg us.toArray] w fun e w' => ∃ r : Bool, e = .returned (.bool r) ∧ Hid (r = true ↔ a = b) ∧ Below w.heap.size w w' := by
  obtain ⟨k0, k1, k2, k3, kl3, kc3, k4, kl4, kc4, rfl⟩ := ExO.shape d _ _ _ _ oa
  obtain ⟨m0, m1, m2, m3, ml3, mc3, m4, ml4, mc4, rfl⟩ := ExO.shape d _ _ _ _ ob
  obtain ⟨W, hW⟩ : ∃ W, W = ((w.alloc (.cells #[.int .i64 k0, .int .i64 k1, .string k2, .slice k3 kl3 kc3, .slice k4 kl4 kc4] 27)).alloc (.cells #[.int .i64 m0, .int .i64 m1, .string m2, .slice m3 ml3 mc3, .slice m4 ml4 mc4] 27)).alloc (.cells #[.int .i64 0, .map none, .slice none 0 0, .slice none 0 0] 93) := ⟨_, rfl⟩
  obtain ⟨hWs, hWb, nA, nB, nP⟩ := three_new w W _ _ _ _ _ _ hW
  obtain ⟨p, hp⟩ : ∃ p, p = w.heap.size + 1 + 1 := ⟨_, rfl⟩
  have hSw : Sw W W p 0 0 (.map none) (.slice none 0 0) (.slice none 0 0) (fun _ _ => none) [] [] := ⟨Kept.refl _ _ _, by omega, by rw [hp]; exact nP, .inl ⟨rfl, fun _ _ => rfl⟩, ⟨[], rfl, .inl ⟨rfl, rfl⟩⟩, ⟨rfl, .inl ⟨rfl, rfl⟩⟩, fun x n v h => (by cases h), fun q hq => (by cases hq)⟩
  have hwa := wkS_le d a
  have hLg : Lg W p 0 0 (fun _ _ => none) [] (fa ++ fb ++ []) (wkS d a + 0) 0 True := ⟨[], ⟨rfl, rfl, trivial⟩, Nat.le_refl _, by omega, fun g => by simpa using hnd g, fun g hg => by have := hlt g (by simpa using hg); omega, fun x n v h => (by cases h)⟩
  have hAl := alike_any d W W p _ _ a b fa fb [] (ExO.lasts d _ _ _ _ _ oa fun g hg => hWb.block g (hlt g (List.mem_append_left _ hg))) (ExO.lasts d _ _ _ _ _ ob fun g hg => hWb.block g (hlt g (List.mem_append_right _ hg))) hz hz' w.heap.size 0 (w.heap.size + 1) 0 ⟨_, _, nA, fun j u hu => by rw [Nat.zero_add]; simpa using hu⟩ ⟨_, _, nB, fun j u hu => by rw [Nat.zero_add]; simpa using hu⟩ (by omega) (by omega) 0 0 True 0 0 _ _ _ _ _ _ hSw hLg
  have HIV : Hid (∀ (V : World) (r : Bool), AlPost W p [] 0 0 True [] (wkS d a) (a = b) W V r → ∃ R, SI W p (a = b) (.bool r) V R ∧ R ≤ 16777216) := fun V r h => by
    rcases h with ⟨rfl, met', nu', pv', uv', tv', f', fs', R', Q', q1, q2, q3, q4⟩ | ⟨rfl, q2, q3⟩
    · exact ⟨R', .inl ⟨rfl, tv', fs', Q', ⟨met', nu', pv', uv', f', q1, q2⟩, by rw [q4]; exact ⟨fun h => h.1, fun h => ⟨h, trivial⟩⟩⟩, by omega⟩
    · exact ⟨0, .inr ⟨rfl, rfl, q2, Kept.of_below q3⟩, by omega⟩
  have HLOW : Hid (∀ wr, Kept p (p + 1) W wr → Below w.heap.size w wr) := fun wr hk => SI.low hk hWb (by omega) (by omega)
  have HROW : Hid (∃ o, W.heap[p]? = some (.cells o 93 (0, 0))) := ⟨_, by rw [hp]; exact nP⟩
  rw [hW, hp] at hAl
  have HW : Hid (W = _) := hW
  have HP : Hid (p = w.heap.size + 1 + 1) := hp
  obtain ⟨EQ, hEQ⟩ : ∃ P : Prop, (a = b) = P := ⟨_, rfl⟩
  rw [hEQ] at HIV hAl ⊢
  obtain ⟨μ', hμ'⟩ := least_work (fun s _ c m => SI W p EQ s c m)
  obtain ⟨μ, hμe⟩ : ∃ μ : Value → Value → World → Nat, μ = μ' := ⟨_, rfl⟩
  have HMU : Hid (∀ s b c m, SI W p EQ s c m → SI W p EQ s c (μ s b c) ∧ μ s b c ≤ m) := fun s b c m h => by rw [hμe]; exact hμ' s b c m h
  clear hμ' hμe hSw hLg hW hp hWs hWb nA nB nP oa ob hnd hlt hz hz' hwa hEQ
  go_enter Try.func27, Try.ntmps27
  go_wp2_with fail
  refine hAl.mono ?_
  clear hAl
  rintro e w1 ⟨r, rfl, hre, HP1⟩
  clear hre
  have HP2 := HP1.out
  rw [← HW.out, ← HP.out] at HP2
  have H0 : Hid (∃ R, SI W p EQ (.bool r) w1 R ∧ R ≤ 16777216) := HIV.out _ _ HP2
  rw [← HP.out]
  clear HP1 HP2 HIV
  go_wp2_with fail
  go_loopw [6] (fun s wr => Hid (∃ R, SI W p EQ s wr R ∧ R ≤ 16777216)) (fun s wr => μ s s wr)
  case atStart => exact H0.out
  case round =>
    obtain ⟨R0, hR0, hRb⟩ := hrel.out
    have hM := (HMU.out _ u6 _ _ hR0).1
    have hM2 := (HMU.out _ u6 _ _ hR0).2
    obtain ⟨R, hRe⟩ : ∃ R, μ u6 u6 wr = R := ⟨_, rfl⟩
    rw [hRe] at hM hM2
    have HWE : Hid (μ u6 u6 wr = R ∧ R ≤ 16777216) := ⟨hRe, by omega⟩
    clear H0 hrel hR0 hRe hM2 hRb
    rcases hM with ⟨rfl, tv, fs, Q, ⟨met, nu, pv, uv, f, hS, hL⟩, hQ⟩ | ⟨rfl, rfl, hne, hk⟩
    case inr =>
      have HF : Hid (¬ EQ ∧ Below w.heap.size w wr) := ⟨hne, HLOW.out _ hk⟩
      clear hne hk
      go_wp2_with fail
      go_ret
      exact ⟨false, rfl, ⟨fun e => (by cases e), fun e => absurd e HF.out.1⟩, HF.out.2⟩
    cases fs with
    | nil =>
      obtain ⟨ta, tc, rfl⟩ := hS.done
      obtain ⟨e0, e1, e2, e3, e4⟩ := hS.cells
      have HF : Hid (EQ ∧ Below w.heap.size w wr) := by
        obtain ⟨rs, ⟨_, _, q⟩, _⟩ := hL
        exact ⟨hQ.1 q, HLOW.out _ hS.kept⟩
      clear hS hL hQ e0 e1 e2 e4
      go_wp2_with fail
      go_ret
      exact ⟨true, rfl, ⟨fun _ => HF.out.1, fun _ => rfl⟩, HF.out.2⟩
    | cons fr fs =>
      obtain ⟨g, c, rfl, hg, hc, t0, t1, t2, t3⟩ := hS.top
      obtain ⟨e0, e1, e2, e3, e4⟩ := hS.cells
      obtain ⟨v1, v2, v3, v4⟩ := fr
      obtain ⟨rem, R1, Q1, R2, Q2, hT, hL2, hRR, hQQ⟩ := hL.pop
      obtain ⟨b1, l1, c1, b2, l2, c2, b3, l3, c3, b4, l4, c4, rfl, rfl, rfl, rfl⟩ := hT.shape
      obtain ⟨n, hn⟩ : ∃ n, fs.length = n := ⟨_, rfl⟩
      have HN : Hid (fs.length = n) := hn
      have hfew := hL.few
      simp only [List.length_cons] at hfew
      rw [hn] at e3 hc t0 t1 t2 t3 hfew
      have HS : Hid (Sw W wr p met nu pv uv _ f _ []) := hS
      have HTF : Hid (TF W _ rem R1 Q1 ∧ Lg W p met nu f fs rem (R1 - 1) R2 Q2 ∧ R = R1 + R2) := ⟨hT, hL2, hRR⟩
      have HQ : Hid (Q1 ∧ Q2 ↔ EQ) := hQQ.symm.trans hQ
      have z3 := e4 3
      have hpz : p < wr.heap.size := Nat.lt_of_lt_of_le hS.plt hS.kept.size
      have hgz : g < wr.heap.size := (own_blk hS.todo g rfl).2
      have hpg : p ≠ g := by have := hS.plt; omega
      clear hS hL hQ e0 e1 e2 e4 hn hT hL2 hRR hQQ
      dsimp only at t0 t1 t2 t3
      go_wp2_with fail
      go_cut [7] (fun v wx => v = .pointer (some ⟨wr.heap.size, 0, none⟩) ∧ Hid (wx.heap[wr.heap.size]? = some (.cells #[.slice b1 l1 c1, .slice b2 l2 c2, .slice b3 l3 c3, .slice b4 l4 c4] 96 (0, 0)) ∧ Below wr.heap.size wr wx))
      case first =>
        go_region
        all_goals
          go_wp2_with fail
          go_meet
          case rel => exact ⟨rfl, heap_alloc_new wr _, ((Below.refl _ _).alloc (Nat.le_refl _) _).drew⟩
      case rest =>
        obtain ⟨rfl, HC⟩ := hcut
        have hSc := HS.out.later HC.out.2
        have hpzc : p < wc.heap.size := Nat.lt_of_lt_of_le hpz HC.out.2.size
        have hwz : wr.heap.size < wc.heap.size := lt_row HC.out.1
        have hpw : p ≠ wr.heap.size := by omega
        have hwp : wr.heap.size ≠ p := by omega
        have e3c := cell_later HC.out.2 e3
        have z3c := hSc.cells.2.2.2.2 3
        have d0 : wc.cell? ⟨wr.heap.size, 0, none⟩ = some (.slice b1 l1 c1) := by rw [cell_of_row wc _ 0 _ _ _ HC.out.1]; rfl
        have d1 : wc.cell? ⟨wr.heap.size, 1, none⟩ = some (.slice b2 l2 c2) := by rw [cell_of_row wc _ 1 _ _ _ HC.out.1]; rfl
        have d2 : wc.cell? ⟨wr.heap.size, 2, none⟩ = some (.slice b3 l3 c3) := by rw [cell_of_row wc _ 2 _ _ _ HC.out.1]; rfl
        have d3 : wc.cell? ⟨wr.heap.size, 3, none⟩ = some (.slice b4 l4 c4) := by rw [cell_of_row wc _ 3 _ _ _ HC.out.1]; rfl
        have hpop := hSc.popped.later (Below.refl _ _).drew
        rw [HN.out] at hpop
        have HLA := lists_any W _ p _ rem R1 Q1 HTF.out.1 R2 Q2 met nu pv uv _ f fs [] hpop HTF.out.2.1 HROW.out
        have hR1 := HTF.out.1.pos
        have HLB : Hid (Calls _ _ _ _ _) := HLA
        have HRR : Hid (R = R1 + R2 ∧ 0 < R1) := ⟨HTF.out.2.2, hR1⟩
        clear hSc HC HS HTF t0 t1 t2 t3 e3 z3 hpop HLA hR1 hpz hgz
        go_wp2_with fail
        go_region
        all_goals
          go_wp2_with fail
          refine HLB.out.mono ?_
          clear HLB
          rintro e w2 ⟨r2, rfl, HP2⟩
          have HNX : Hid (∃ R', SI W p EQ (.bool r2) w2 R' ∧ R' < R) := by
            have hq := HRR.out
            rcases HP2.out with ⟨rfl, tv', fs', R', Q', q1, q2, q3⟩ | ⟨rfl, q1, q2⟩
            · exact ⟨R', .inl ⟨rfl, tv', fs', Q', q1, q3.trans HQ.out⟩, by omega⟩
            · exact ⟨0, .inr ⟨rfl, rfl, fun e => q1 (HQ.out.2 e).1, q2⟩, by omega⟩
          clear HP2 d0 d1 d2 d3 e3c z3c
          go_wp2_with fail
          go_roundw
          case rel =>
            obtain ⟨R', q1, q2⟩ := HNX.out
            exact ⟨R', q1, by have := HWE.out.2; omega⟩
          case measure =>
            obtain ⟨R', q1, q2⟩ := HNX.out
            have h1 := (HMU.out _ (.bool r2) _ _ q1).2
            have h2 := HWE.out.1
            omega

end Go.Proofs.Ytpokheklplcamaa

/- What the law of SameExpr holds in hand. -/
namespace Go.Proofs.Ytpokheklplcamaa
open Go.RowKit
set_option linter.unusedVariables false

theorem two_new (w W : World) (cA cB : Array Value) (t1 t2 : TypeId) (hW : W = (w.alloc (.cells cA t1)).alloc (.cells cB t2)) : W.heap.size = w.heap.size + 2 ∧ Below w.heap.size w W ∧ W.heap[w.heap.size]? = some (.cells cA t1 (0, 0)) ∧ W.heap[w.heap.size + 1]? = some (.cells cB t2 (0, 0)) := by
  obtain ⟨w1, h1⟩ : ∃ w1, w1 = w.alloc (.cells cA t1) := ⟨_, rfl⟩
  have s1 : w1.heap.size = w.heap.size + 1 := by rw [h1]; simp
  have b1 : Below w.heap.size w w1 := by rw [h1]; exact (Below.refl _ _).alloc (Nat.le_refl _) _
  have b2 : Below w1.heap.size w1 W := by rw [hW, h1]; exact (Below.refl _ _).alloc (Nat.le_refl _) _
  have e2 : W = w1.alloc (.cells cB t2) := by rw [hW, h1]
  have n1 : w1.heap[w.heap.size]? = some (.cells cA t1 (0, 0)) := by rw [h1]; exact heap_alloc_new w _
  refine ⟨by rw [e2]; simp [s1], b1.trans (b2.mono b1.size), ?_, ?_⟩
  · rw [b2.block _ (by omega)]; exact n1
  · rw [e2, ← s1]; exact heap_alloc_new w1 _

theorem five_cells {V : World} {A : Nat} {x0 x1 x2 x3 x4 : Value} {t : TypeId} (h : V.heap[A]? = some (.cells #[x0, x1, x2, x3, x4] t (0, 0))) : V.cell? ⟨A, 0, none⟩ = some x0 ∧ V.cell? ⟨A, 1, none⟩ = some x1 ∧ V.cell? ⟨A, 2, none⟩ = some x2 ∧ V.cell? ⟨A, 3, none⟩ = some x3 ∧ V.cell? ⟨A, 4, none⟩ = some x4 :=
  ⟨by rw [cell_of_row V _ 0 _ _ _ h]; rfl, by rw [cell_of_row V _ 1 _ _ _ h]; rfl, by rw [cell_of_row V _ 2 _ _ _ h]; rfl, by rw [cell_of_row V _ 3 _ _ _ h]; rfl, by rw [cell_of_row V _ 4 _ _ _ h]; rfl⟩

/-- Two copies of which the second was made behind the first. -/
theorem fresh_apart {fa fb : List Nat} {A B : Nat} {w1 w2 : World} (ha : Fresh A w1 fa) (hb : Fresh B w2 fb) (h : w1.heap.size ≤ B) : ∀ g, (fa ++ fb).count g ≤ 1 := fun g => by
  have h1 := (List.nodup_iff_count.1 ha.1) g
  have h2 := (List.nodup_iff_count.1 hb.1) g
  rw [List.count_append]
  rcases Nat.eq_zero_or_pos (fa.count g) with h3 | h3
  · omega
  · rcases Nat.eq_zero_or_pos (fb.count g) with h4 | h4
    · omega
    · have q1 := ha.2 g (List.count_pos_iff.1 h3)
      have q2 := hb.2 g (List.count_pos_iff.1 h4)
      omega

end Go.Proofs.Ytpokheklplcamaa
