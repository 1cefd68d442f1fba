/- What the program's putting of a number comes to: a copy of the bytes in new memory, and the groups behind it. -/
import Derived.Test.YtallldandbeimaaEq
import Derived.Test.YtallldandbeimaaPutNum0
import Derived.Laws.CopyOwn
namespace Go.Proofs.Ytallldandbeimaa
open Go.RowKit

theorem ret1p {a b : Int} (h : a = b) : Ending.returned (.int .i64 a) = .returned (.int .i64 b) := by rw [h]

set_option maxHeartbeats 400000 in
theorem numCode_any (n : Int) (w : World) (h0 : -9223372036854775808 ≤ n) (h1 : n ≤ 9223372036854775807) :
    Calls Try.prog 22 #[.int .i64 n] w fun e w' => e = .returned (.int .i64 (code n)) ∧ w' = w := by
  by_cases c1 : 1000000000000 < n
  · have hc : Hid (2000000000000 = code n) := by have : clamp n = 1000000000000 := by unfold clamp; rw [if_pos c1]
                                                 unfold code; rw [this]; exact rfl
    go_enter Try.func22, Try.ntmps22
    go_wp2
    go_ret
    exact ⟨ret1p hc.out, rfl⟩
  · by_cases c2 : n ≤ -1000000000000
    · have hc : Hid (1999999999999 = code n) := by have : clamp n = -1000000000000 := by unfold clamp; rw [if_neg c1]; split <;> omega
                                                   unfold code; rw [this]; exact rfl
      go_enter Try.func22, Try.ntmps22
      go_wp2
      go_ret
      exact ⟨ret1p hc.out, rfl⟩
    · have hcl : clamp n = n := by unfold clamp; rw [if_neg c1, if_neg (by omega)]
      by_cases c3 : n < 0
      · have hc : Hid (-2 * n - 1 = code n) := by unfold code; rw [hcl, if_pos c3]; exact rfl
        clear hcl
        go_enter Try.func22, Try.ntmps22
        go_wp2
        go_ret
        exact ⟨ret1p hc.out, rfl⟩
      · have hc : Hid (2 * n = code n) := by unfold code; rw [hcl, if_neg c3]; exact rfl
        clear hcl
        go_enter Try.func22, Try.ntmps22
        go_wp2
        go_ret
        exact ⟨ret1p hc.out, rfl⟩

theorem u8_size : (Try.prog.info? 5).map (·.size) = some 1 := by kernel_rfl

/-- From a block's whole row to what is owned. -/
theorem own_of_row {w : World} {g n base : Nat} {xs : List Value} (h : w.heap[g]? = some (.cells xs.toArray 5 (0, 0))) (hx : xs.length = n) (hb : base ≤ g) (hm : n ≤ maxLen) :
    w.ownsRow base 5 1 (.slice (some ⟨g, 0, none⟩) n n) n xs :=
  ⟨by omega, .inr ⟨g, n, xs.toArray, rfl, hb, h, Nat.le_refl _, hm, by simp; omega, by rw [List.take_of_length_le (by simp; omega)]⟩⟩

set_option maxHeartbeats 400000 in
theorem ownBytes_any (a : Option Addr) (len cap : Nat) (xs : List Int) (w : World) (h : Rd w a len xs) (hm : len ≤ 1073741824) :
    Calls Try.prog 16 #[.slice a len cap] w fun e w' => e = .returned (.slice (some ⟨w.heap.size, 0, none⟩) len len) ∧
      w'.ownsRow w.heap.size 5 1 (.slice (some ⟨w.heap.size, 0, none⟩) len len) len (xs.map (Value.int .u8)) ∧ Below w.heap.size w w' := by
  obtain ⟨i0, hi, hz0, hz1, hz2⟩ := info_parts Try.info5
  have hlen := h.1
  go_enter Try.func16, Try.ntmps16
  go_wp2_with (at_make; refine wpList_make_full _ rfl _ _ 22 rfl w.heap.size 5 i0 (.int .u8 0) 1 Try.underlying22 hi hz0 hz1 _ _ _ _ len rfl rfl rfl rfl ?c1 ?c2 ?c3 ?_)
  case c1 => rw [hz2]; omega
  case c2 => unfold maxLen; omega
  case c3 => exact Nat.le_refl _
  intro w1 hown hgrow
  rw [toList_madeCells_one] at hown
  have hbel : Below w.heap.size w w1 := (Below.refl _ _).grown hgrow (Nat.le_refl _) (fun _ h => by cases h)
  have h' := h.later hbel
  have hrow : w1.heap[w.heap.size]? = some (.cells (List.replicate len (Value.int .u8 0)).toArray 5 (0, 0)) := by
    rcases hown.2 with ⟨h', _⟩ | ⟨g', cap', cur, h', _, hg, _, _, hs, ht⟩
    · simp at h'
    · simp only [Value.slice.injEq, Option.some.injEq, Addr.mk.injEq, and_true, true_and] at h'
      obtain ⟨rfl, rfl⟩ := h'
      rw [List.take_of_length_le (by simp; omega)] at ht
      rw [hg, ← ht]
  clear hown hgrow
  obtain ⟨cs, hcs⟩ : ∃ cs, cs = xs.map (Value.int .u8) := ⟨_, rfl⟩
  have HC : Hid (cs = xs.map (Value.int .u8)) := hcs
  have hcl : cs.length = len := by rw [hcs, List.length_map, hlen]
  clear hcs
  go_wp2_with (refine wpList_copy_splice rfl (.tmp 7) (.tmp 8) 22 22 rfl 5 Try.underlying22 u8_size _ a _ _ len cap rfl rfl w.heap.size 0 (List.replicate len (Value.int .u8 0)) 5 hrow cs ?d1 ?d2 ?d3 ?d4 w.heap.size w hbel (Nat.le_refl _) ?_)
  case d1 => rw [hcl]; exact (Nat.min_self len).symm
  case d2 =>
    intro hp
    obtain ⟨b, off, hx, _⟩ := h'.2 0 (by omega)
    refine ⟨_, hx, fun j u hj => ?_⟩
    have hj' : j < len := by
      have := (List.getElem?_eq_some_iff.1 hj).1
      omega
    obtain ⟨b', off', hx', hc'⟩ := h'.2 j hj'
    rw [hx] at hx'
    cases hx'
    rw [Addr.add_lit, hc', ← hj, HC.out]
    simp [show j < xs.length by omega]
  case d3 => rw [hcl]; simp
  case d4 => rw [HC.out]; exact ints_oneCell _ _
  intro w2 hrow2 hbel2
  have HR : Hid (w2.ownsRow w.heap.size 5 1 (.slice (some ⟨w.heap.size, 0, none⟩) len len) len (xs.map (Value.int .u8))) := by
    have hh := hrow2.out
    rw [show splice (List.replicate len (Value.int .u8 0)) 0 cs = cs from by
      unfold splice; rw [List.take_zero, List.nil_append, List.drop_of_length_le (by simp; omega), List.append_nil]] at hh
    rw [← HC.out]
    exact own_of_row hh hcl (Nat.le_refl _) (by unfold maxLen; omega)
  go_wp2
  go_ret
  exact ⟨rfl, HR.out, hbel2⟩
end Go.Proofs.Ytallldandbeimaa
