/- What the law's own helpers do to memory: a copy of bytes in new memory, and whether two rows of bytes are alike. -/
import Derived.Test.YtkfpfijblflcfaaRows
import Derived.Test.YtkfpfijblflcfaaNum
import Derived.WalkKit
import Derived.WalkSpells
import Derived.WalkLawsBesides
import Derived.BigQuiet
import Derived.Deep.QuietTactic
namespace Go.Proofs.Ytkfpfijblflcfaa
open Go.RowKit

/-- WHAT THE WALK IS TOLD OF A SLICE OF INTEGERS THAT CAME IN: it is nil; or it leads to a row of 'cap' cells, the numbers 'zs'. -/
def IsRow (k : IntKind) (w : World) (a : Option Addr) (len cap : Nat) (zs : List Int) : Prop :=
  (a = none ∧ len = 0 ∧ cap = 0 ∧ zs = []) ∨
  ∃ x, a = some x ∧ len ≤ cap ∧ cap ≤ maxLen ∧ zs.length = cap ∧ (∀ i, i < zs.length → w.cell? (x.add i) = some (.int k (zs.getD i 0))) ∧ ∀ n ∈ zs, (Lit.int k n).wf = true

theorem Try.info5 : (Try.prog.info? 5).map (fun i => (i.zero, i.size, i.bytes)) = some (some (.int .u8 0), 1, 1) := by kernel_rfl

/-- The cells of a copy of which k bytes are done. -/
def half (zs : List Int) (len k : Nat) : List Value := (zs.take k).map (Value.int .u8) ++ List.replicate (len - k) (.int .u8 0)

theorem half_zero (zs : List Int) (len : Nat) : half zs len 0 = List.replicate len (.int .u8 0) := by simp [half]
theorem half_full (zs : List Int) (len : Nat) : half zs len len = (zs.take len).map (Value.int .u8) := by simp [half]
theorem half_step (zs : List Int) (len k : Nat) (hk : k < len) (hz : len ≤ zs.length) : (half zs len k).set k (.int .u8 (zs[k]?.getD 0)) = half zs len (k + 1) := by
  have h1 : k < zs.length := by omega
  have e1 : len - k = (len - (k + 1)) + 1 := by omega
  unfold half
  rw [List.set_append_right _ _ (by simp; omega), List.length_map, List.length_take, Nat.min_eq_left (by omega), Nat.sub_self, e1, List.replicate_succ, List.set_cons_zero,
    List.take_succ_eq_append_getElem h1, List.map_append]
  simp [h1]
theorem half_len (zs : List Int) (len k : Nat) (hk : k ≤ len) (hz : len ≤ zs.length) : (half zs len k).length = len := by
  simp [half]; omega

theorem wf_u8 {n : Int} (h : (Lit.int .u8 n).wf = true) : 0 ≤ n ∧ n ≤ 255 := by
  have h1 : IntKind.u8.min = 0 := by decide
  have h2 : IntKind.u8.max = 255 := by decide
  simpa [Lit.wf, h1, h2] using h

end Go.Proofs.Ytkfpfijblflcfaa
