/- The law's own look whether the marks on terms are held. -/
import Derived.Test.YtgmddookohkhlaaMarkT
import Derived.Deep.DeepCutAuto
import Derived.Deep.CutRange
namespace Go.Proofs.Ytgmddookohkhlaa
open Go.RowKit
set_option linter.unusedVariables false

/-- The contract of the look at a list. -/
def HdS (f d : Nat) : Prop := ∀ (v : Value) (ts : List (Tm d)) (k : Int) (w : World), RdL d w v (markL d k ts).1 → 0 ≤ k → k + 3 * (cntL d ts : Nat) ≤ 1099511627776 →
  Calls Try.prog f #[v, .int .i64 k] w fun e w' => e = .returned (.int .i64 (k + 3 * (cntL d ts : Nat))) ∧ Below w.heap.size w w'

theorem len_cntL (d : Nat) (ts : List (Tm (d + 1))) : ts.length ≤ cntL (d + 1) ts := by
  show ts.length ≤ (ts.map fun t => 1 + cntL d t.L).sum
  induction ts with
  | nil => simp
  | cons t r ih2 => simp only [List.length_cons, List.map_cons, List.sum_cons]; omega

set_option maxHeartbeats 1000000 in
theorem heldTermS_any : ∀ d, HdS 72 d := by
  intro d
  induction d with
  | zero =>
    intro v ts k w hr h0 h1
    obtain ⟨a, c, rfl⟩ := hr
    go_enter Try.func72, Try.ntmps72
    go_wp2
    refine wp_loop_rounds 1 ?_
    rw [rounds_succ]
    go_wp2
    go_ret
    exact ⟨tret1 (by show k = k + 3 * ((0 : Nat) : Int); omega), Below.refl _ _⟩
  | succ d ih =>
    intro v ts k w hr h0 h1
    obtain ⟨a, c, rfl, hel⟩ := hr
    have hln : (markL (d + 1) k ts).1.length = ts.length := markList_len _ ts k
    rw [hln]
    have HE : Hid (∀ (i : Nat) (t : Tm (d + 1)), ts[i]? = some t → ∃ b o lv, a = some ⟨b, o, none⟩ ∧ Four w b (o + i * 4) (k + 3 * (cntP d ts i : Nat)) (k + 3 * (cntP d ts i : Nat) + 1) (mt (k + 3 * (cntP d ts i : Nat) + 2)) lv ∧ RdL d w lv (markL d (k + 3 * (cntP d ts i : Nat) + 3) t.L).1) := fun i t ht =>
      hel i (markT d (k + 3 * (cntP d ts i : Nat)) t) (by rw [markL_at, ht]; rfl)
    have HB : Hid (k + 3 * (cntL (d + 1) ts : Nat) ≤ 1099511627776) := h1
    have hlb : ts.length ≤ 1099511627776 := by have := len_cntL d ts; omega
    obtain ⟨len, hl⟩ : ∃ len, ts.length = len := ⟨_, rfl⟩
    have HL : Hid (ts.length = len) := hl
    have HI : Hid (HdS 72 d) := ih
    rw [hl] at hlb ⊢
    clear ih hel hl h1 hln
    go_enter Try.func72, Try.ntmps72
    go_wp2_with fail
    go_loopw [1, 5] (fun x i wr => ∃ j : Nat, j ≤ len ∧ i = .int .i64 j ∧ x = .int .i64 (k + 3 * (cntP d ts j : Nat)) ∧ Below w.heap.size w wr) (fun _ i _ => len - (intOf i).toNat)
    case atStart => exact ⟨0, Nat.zero_le _, rfl, by show Value.int .i64 k = .int .i64 (k + 3 * ((0 : Nat) : Int)); rw [show k + 3 * ((0 : Nat) : Int) = k from by omega], Below.refl _ _⟩
    case round =>
      obtain ⟨j, hj, rfl, rfl, hb⟩ := hrel
      obtain ⟨q, hq⟩ : ∃ q, k + 3 * (cntP d ts j : Nat) = q := ⟨_, rfl⟩
      have HQ : Hid (k + 3 * (cntP d ts j : Nat) = q) := hq
      have hq0 : 0 ≤ q := by omega
      have hq1 : q ≤ 1099511627776 := by have := cntP_le d ts j; have := HB.out; omega
      rw [hq]
      by_cases hjl : j < len
      · obtain ⟨t, ht⟩ : ∃ t, ts[j]? = some t := ⟨_, List.getElem?_eq_getElem (by rw [HL.out]; exact hjl)⟩
        obtain ⟨b1, o1, lv1, rfl, F1, L1⟩ := HE.out j t ht
        rw [hq, show q + 3 = q + 1 + 1 + 1 from by omega] at L1
        rw [hq, show q + 2 = q + 1 + 1 from by omega] at F1
        have hcnt : q + 3 + 3 * (cntL d t.L : Nat) ≤ 1099511627776 := by
          have h7 := cntP_succ d ts j t ht; have h8 := cntP_le d ts (j + 1); have h9 := HB.out; omega
        have HN : Hid (k + 3 * (cntP d ts (j + 1) : Nat) = q + 1 + 1 + 1 + 3 * (cntL d t.L : Nat)) := by have h7 := cntP_succ d ts j t ht; show _ = _; omega
        have F1' := F1.later hb
        have L1' := L1.later hb
        obtain ⟨xa, xl, xc, hxs⟩ := L1'.shape
        rw [hxs] at F1' L1'
        have HF1 : Hid (Four wr b1 (o1 + j * 4) q (q + 1) (mt (q + 1 + 1)) (.slice xa xl xc)) := F1'
        have HL1 : Hid (RdL d wr (.slice xa xl xc) (markL d (q + 1 + 1 + 1) t.L).1) := L1'
        obtain ⟨f0, f1, f2, f3⟩ := F1'
        have hjl' : (j : Int) < (len : Int) := by omega
        have HMT : Hid (∀ V : World, Calls Try.prog 70 #[.int .i64 (q + 1 + 1)] V fun e w' => e = .returned (.string (mt (q + 1 + 1))) ∧ Below V.heap.size V w') := fun V => markText_any (q + 1 + 1) V (by omega) (by omega)
        obtain ⟨M, hM⟩ : ∃ M, mt (q + 1 + 1) = M := ⟨_, rfl⟩
        rw [hM] at HMT f2
        have HFM : Hid (Four wr b1 (o1 + j * 4) q (q + 1) M (.slice xa xl xc)) := by rw [← hM]; exact HF1.out
        clear F1 L1 L1' hxs ht hq HF1 hM
        go_upto_region 10 with fail
        go_cut [37] (fun v wx => v = .bool false ∧ Below wr.heap.size wr wx)
        case first =>
          go_region_with (go_at_call 70; refine (HMT.out _).mono ?_; rintro e V ⟨rfl, hB⟩; have g2 := cell_later ((Below.refl _ _).drew.trans hB) f2)
          all_goals
            go_wp2_with fail
            go_meet
            case rel => exact ⟨by first | rfl | simp, (Below.refl _ _).drew.trans hB⟩
        case rest =>
          obtain ⟨rfl, hbr⟩ := hcut
          obtain ⟨r0, r1, r2, r3⟩ := HFM.out.later hbr
          have hC := HI.out (.slice xa xl xc) t.L (q + 1 + 1 + 1) wc (HL1.out.later hbr) (by omega) (by omega)
          have hnn : ¬ (q + 1 + 1 + 1 + 3 * (cntL d t.L : Nat) : Int) < 0 := by omega
          obtain ⟨z, hz⟩ : ∃ z, (q + 1 + 1 + 1 + 3 * (cntL d t.L : Nat) : Int) = z := ⟨_, rfl⟩
          rw [hz] at hC hnn
          have HZ : Hid (k + 3 * (cntP d ts (j + 1) : Nat) = z) := by rw [← hz]; exact HN.out
          have hb2 : Below w.heap.size w wc := hb.trans (hbr.mono hb.size)
          clear f0 f1 f2 f3 hb hbr hz HN
          go_wp2_with fail
          refine hC.mono ?_
          clear hC
          rintro e V ⟨rfl, hBV⟩
          have hb3 : Below w.heap.size w V := hb2.trans (hBV.mono hb2.size)
          clear r0 r1 r2 r3 hBV hb2
          go_wp2
          go_roundw
          case rel => exact ⟨j + 1, by omega, by go_num, by rw [HZ.out], hb3⟩
          case measure => simp [intOf]; omega
      · have hjn : ts.length ≤ j := by have := HL.out; omega
        have HF : Hid (q = k + 3 * (cntL (d + 1) ts : Nat)) := by rw [← HQ.out, cntP_all d ts j hjn]; exact rfl
        clear hq
        go_wp2
        go_ret
        exact ⟨tret1 HF.out, hb⟩

end Go.Proofs.Ytgmddookohkhlaa
