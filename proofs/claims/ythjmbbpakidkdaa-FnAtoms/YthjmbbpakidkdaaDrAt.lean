/- What a draw of an atom comes to: a short text. -/
import Derived.Test.YthjmbbpakidkdaaDrw
namespace Go.Proofs.Ythjmbbpakidkdaa
open Go.RowKit
set_option linter.unusedVariables false

def atL : List ByteArray := [⟨#[97]⟩, ⟨#[97, 95, 49]⟩, ⟨#[]⟩, ⟨#[65]⟩, ⟨#[49, 97]⟩, ⟨#[95, 97]⟩, ⟨#[116, 119, 101, 110, 116, 121, 98, 121, 116, 101, 115, 116, 119, 101, 110, 116, 121, 98, 121, 116]⟩, ⟨#[116, 119, 101, 110, 116, 121, 111, 110, 101, 98, 121, 116, 101, 115, 116, 119, 101, 110, 116, 121, 111]⟩, ⟨#[111, 107]⟩, ⟨#[195, 169]⟩]
theorem atL_ok : ∀ x ∈ atL, x.size ≤ 21 := by
  unfold atL; simp only [List.forall_mem_cons, List.not_mem_nil, false_implies, implies_true, and_true]; decide

set_option maxHeartbeats 1000000 in
theorem drawAtom_any (a : Option Addr) (len cap : Nat) (zs : List Int) (w : World) (hr : IsRow .u8 w a len cap zs) (hm : len ≤ 1048576) :
    Calls Try.prog 48 #[.slice a len cap] w fun e w' => ∃ x : ByteArray, e = .returned (.string x) ∧ x.size ≤ 21 ∧ Below w.heap.size w w' := by
  have hne : ∀ x, a = some x → 0 < cap → x.block ≠ w.heap.size := isRow_old hr
  have HNE : Hid (∀ x, a = some x → 0 < cap → x.block ≠ w.heap.size) := hne
  have hN := l1New_any a len cap zs w hr (by omega)
  clear hne
  go_enter Try.func48, Try.ntmps48
  go_wp2_with fail
  refine hN.mono ?_
  clear hN
  rintro e w1 ⟨rfl, hc1, hb1⟩
  have hr1 := hr.later hb1
  have hp1 := hc1.lt
  clear hr
  go_wp2_with fail
  refine (l1Str_any w.heap.size len cap a zs w1.heap.size 0 10 10 atL _ (hc1.same (Below.heap_alloc w1 _ _ hp1)) (hr1.grown (World.grownBy_alloc w1 _ (some w.heap.size)) HNE.out) HNE.out (by omega) (by omega) rfl (by omega) (by omega) (list_cellsS w1 atL _ _ rfl)).mono ?_
  rintro e w2 ⟨x, hx, rfl, hc2, hg2⟩
  have hxs := atL_ok x hx
  have hb2 : Below w.heap.size w w2 := hb1.trans ((grown_below (World.grownBy_alloc w1 _ (some w.heap.size)) (Nat.le_refl _) hb1.size).trans (grown_below hg2 (Nat.le_refl _) (by simp; omega)))
  clear hc1 hr1 hg2 hc2 hb1 HNE hx
  go_wp2_with fail
  go_ret
  exact ⟨x, rfl, hxs, hb2⟩

end Go.Proofs.Ythjmbbpakidkdaa
