/- The law's own comparison of terms: two that read as one are alike. -/
import Derived.Test.YtgmddookohkhlaaTo
import Derived.Deep.RegionWith
namespace Go.Proofs.Ytgmddookohkhlaa
open Go.RowKit

def EqS (d : Nat) : Prop := ∀ (v1 v2 : Value) (ts : List (Tm d)) (w : World), RdL d w v1 ts → RdL d w v2 ts → WfL d ts →
  Calls Try.prog 97 #[v1, v2] w fun e w' => e = .returned (.bool true) ∧ Below w.heap.size w w'

theorem RdL.shape {d : Nat} {w : World} {v : Value} {ts : List (Tm d)} (h : RdL d w v ts) : ∃ a l c, v = .slice a l c := by
  cases d with
  | zero => obtain ⟨a, c, h⟩ := h; exact ⟨a, _, c, h⟩
  | succ d => obtain ⟨a, c, h, _⟩ := h; exact ⟨a, _, c, h⟩

set_option maxHeartbeats 1000000 in
theorem eqTerm_of (d : Nat) (H : EqS d) (k n : Int) (s : ByteArray) (l1 l2 : Value) (ts : List (Tm d)) (w : World) (h1 : RdL d w l1 ts) (h2 : RdL d w l2 ts) (hw : WfL d ts) :
    Calls Try.prog 85 #[.agg #[.int .i64 k, .int .i64 n, .string s, l1], .agg #[.int .i64 k, .int .i64 n, .string s, l2]] w fun e w' => e = .returned (.bool true) ∧ Below w.heap.size w w' := by
  have hA : Below w.heap.size w ((w.alloc (.cells #[.int .i64 k, .int .i64 n, .string s, l1] 53)).alloc (.cells #[.int .i64 k, .int .i64 n, .string s, l2] 53)) := ((Below.refl _ _).alloc (Nat.le_refl _) _).alloc (by simp) _
  have hC := H l1 l2 ts _ (h1.later hA) (h2.later hA) hw
  clear H h1 h2 hw
  go_enter Try.func85, Try.ntmps85
  go_wp2_with fail
  refine hC.mono ?_
  clear hC
  rintro e w1 ⟨rfl, hb⟩
  have hb2 : Below w.heap.size w w1 := hA.trans (hb.mono (by simp; omega))
  clear hA hb
  go_wp2
  go_ret
  exact ⟨rfl, hb2⟩

set_option maxHeartbeats 1000000 in
theorem eqTermS_any : ∀ d, EqS d := by
  intro d
  induction d with
  | zero =>
    intro v1 v2 ts w h1 h2 hw
    obtain ⟨a1, c1, rfl⟩ := h1
    obtain ⟨a2, c2, rfl⟩ := h2
    go_enter Try.func97, Try.ntmps97
    go_wp2
    refine wp_loop_rounds 1 ?_
    rw [rounds_succ]
    go_wp2
    go_ret
    exact ⟨rfl, Below.refl _ _⟩
  | succ d ih =>
    intro v1 v2 ts w h1 h2 hw
    have HT := eqTerm_of d ih
    obtain ⟨a1, c1, rfl, e1⟩ := h1
    obtain ⟨a2, c2, rfl, e2⟩ := h2
    have HE1 : Hid (∀ (i : Nat) (t : Tm (d + 1)), ts[i]? = some t → ∃ b o lv, a1 = some ⟨b, o, none⟩ ∧ Four w b (o + i * 4) t.K t.N t.S lv ∧ RdL d w lv t.L) := e1
    have HE2 : Hid (∀ (i : Nat) (t : Tm (d + 1)), ts[i]? = some t → ∃ b o lv, a2 = some ⟨b, o, none⟩ ∧ Four w b (o + i * 4) t.K t.N t.S lv ∧ RdL d w lv t.L) := e2
    have HW : Hid (WfL (d + 1) ts) := hw
    have hm : ts.length ≤ 9223372036854775807 := hw.1
    obtain ⟨len, hlen⟩ : ∃ len, ts.length = len := ⟨_, rfl⟩
    have HLN : Hid (ts.length = len) := hlen
    rw [hlen] at hm ⊢
    clear hlen ih e1 e2 hw
    go_enter Try.func97, Try.ntmps97
    go_wp2_with fail
    go_loopw [5] (fun i wr => ∃ k : Nat, k ≤ len ∧ i = .int .i64 k ∧ Below w.heap.size w wr) (fun i _ => len - (intOf i).toNat)
    case atStart => exact ⟨0, Nat.zero_le _, rfl, Below.refl _ _⟩
    case round =>
      obtain ⟨k, hk, rfl, hb⟩ := hrel
      by_cases hkl : k < len
      · obtain ⟨t, ht⟩ : ∃ t, ts[k]? = some t := ⟨_, List.getElem?_eq_getElem (by rw [HLN.out]; exact hkl)⟩
        obtain ⟨b1, o1, lv1, rfl, F1, L1⟩ := HE1.out k t ht
        obtain ⟨b2, o2, lv2, rfl, F2, L2⟩ := HE2.out k t ht
        obtain ⟨_, _, _, hwt⟩ := HW.out.2 t (List.mem_of_getElem? ht)
        obtain ⟨f0, f1, f2, f3⟩ := F1.later hb
        obtain ⟨g0, g1, g2, g3⟩ := F2.later hb
        have L1' := L1.later hb
        have L2' := L2.later hb
        obtain ⟨x1, y1, z1, hs1⟩ := L1'.shape
        obtain ⟨x2, y2, z2, hs2⟩ := L2'.shape
        rw [hs1] at f3 L1'
        rw [hs2] at g3 L2'
        have hkl' : (k : Int) < (len : Int) := by omega
        have HC : Hid (∀ W : World, Below wr.heap.size wr W → Calls Try.prog 85 #[.agg #[.int .i64 t.K, .int .i64 t.N, .string t.S, .slice x1 y1 z1], .agg #[.int .i64 t.K, .int .i64 t.N, .string t.S, .slice x2 y2 z2]] W fun e w' => e = .returned (.bool true) ∧ Below W.heap.size W w') :=
          fun W hW => HT t.K t.N t.S _ _ t.L W (L1'.later hW) (L2'.later hW) hwt
        clear F1 F2 L1 L2 HT L1' L2' hs1 hs2
        go_wp2_with fail
        go_region_with (go_at_call 85; refine (HC.out _ ?_).mono ?_; exact (Below.refl _ _).drew; rintro e W ⟨rfl, hB⟩)
        all_goals
          have hb2 : Below w.heap.size w W := hb.drew.trans (hB.mono hb.drew.size)
          clear hb hB
          go_wp2
          go_roundw
          case rel => exact ⟨k + 1, by omega, by go_num, hb2⟩
          case measure => simp [intOf]; omega
      · go_wp2
        go_ret
        exact ⟨rfl, hb⟩
end Go.Proofs.Ytgmddookohkhlaa
