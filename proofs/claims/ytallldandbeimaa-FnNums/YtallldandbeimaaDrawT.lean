/- What a draw of bytes and a text comes to: both of few bytes, in new memory; nothing old is written. -/
import Derived.Test.YtallldandbeimaaDraw
namespace Go.Proofs.Ytallldandbeimaa
open Go.RowKit

theorem own_convert {w : World} {B g n c : Nat} {xs : List Int} (h : w.ownsRow B 5 1 (.slice (some ⟨g, 0, none⟩) n c) n (xs.map (Value.int .u8))) :
    (convert 22 9 (.slice (some ⟨g, 0, none⟩) n c)).run Try.prog w = .ok (.string (strOfNums xs)) w :=
  run_convert_bytes_arg w 22 5 Try.underlying22 Try.underlying5 g 0 n c xs (by have := h.1; simpa using this) (own_cells h) 9 Try.underlying9

set_option maxHeartbeats 1000000 in
theorem drawPutText_any (a : Option Addr) (len cap : Nat) (zs : List Int) (w : World) (hr : IsRow .u8 w a len cap zs) (hm : len ≤ 1048576) :
    Calls Try.prog 8 #[.slice a len cap] w fun e w' => ∃ (g c : Nat) (xs ys : List Int), e = .returned (.tuple #[.slice (some ⟨g, 0, none⟩) xs.length c, .string (strOfNums ys)]) ∧ xs.length ≤ 9 ∧ (∀ x ∈ xs, 0 ≤ x ∧ x ≤ 255) ∧
      ys.length ≤ 9 ∧ (∀ x ∈ ys, 0 ≤ x ∧ x ≤ 255) ∧ w'.ownsRow w.heap.size 5 1 (.slice (some ⟨g, 0, none⟩) xs.length c) xs.length (xs.map (Value.int .u8)) ∧ Below w.heap.size w w' := by
  have hne : ∀ x, a = some x → 0 < cap → x.block ≠ w.heap.size := isRow_old hr
  have hN := l1New_any a len cap zs w hr (by omega)
  have HS := fun (W : World) (hc : Cur W w.heap.size a len cap) (hr : IsRow .u8 W a len cap zs) => l1Some_any w.heap.size len cap a zs W hc hr hne (by omega)
  have HNE : Hid (∀ x, a = some x → 0 < cap → x.block ≠ w.heap.size) := hne
  clear hne
  go_enter Try.func8, Try.ntmps8
  go_wp2_with fail
  refine hN.mono ?_
  clear hN
  rintro e w1 ⟨rfl, hc, hb⟩
  have hr1 := hr.later hb
  clear hr
  have hr := hr1
  clear hr1
  go_wp2_with fail
  go_region_with (go_at_call 12; refine (HS _ ?_ ?_).mono ?_; exact hc; exact hr; rintro e W ⟨g, c, xs, rfl, hl9, hrng, hown, hc, hg⟩; have hr := IsRow.grown (by exact hr) hg HNE.out; have hcv := own_convert hown)
  go_wp2
  rename_i W1 g1 c1 xs1 hl1 hrng1 hown1 hc1 hg1 hr1 hcv1
  have hs1 : w.heap.size < w1.heap.size := Cur.lt (by assumption)
  have hgp : w.heap.size ≠ g1 := fun e => by have := (hown1.lt g1 rfl).1; have h2 : w1.drew.heap.size = w1.heap.size := rfl; omega
  have hb1 : Below w.heap.size w W1 := hb.drew.trans (grown_below hg1 (Nat.le_refl _) hb.drew.size)
  have hb2 : Below w.heap.size w W := hb1.trans (grown_below hg (Nat.le_refl _) hb1.size)
  have hown2 : W.ownsRow w.heap.size 5 1 (.slice (some ⟨g1, 0, none⟩) xs1.length c1) xs1.length (xs1.map (Value.int .u8)) := own_weaken (own_grown hown1 hg hgp.symm) hb.drew.size
  go_ret2
  exact ⟨g1, c1, xs1, xs, rfl, hl1, hrng1, hl9, hrng, hown2, hb2⟩
end Go.Proofs.Ytallldandbeimaa
