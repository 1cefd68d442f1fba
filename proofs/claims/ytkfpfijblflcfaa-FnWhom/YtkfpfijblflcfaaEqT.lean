/- The law's own comparison of terms: two that read as one are alike. -/
import Derived.Test.YtkfpfijblflcfaaTo
import Derived.Deep.RegionWith
namespace Go.Proofs.Ytkfpfijblflcfaa
open Go.RowKit

theorem RdL.shape {d : Nat} {w : World} {v : Value} {ts : List (Tm d)} (h : RdL d w v ts) : ∃ a l c, v = .slice a l c := by
  cases d with
  | zero => obtain ⟨a, c, h⟩ := h; exact ⟨a, _, c, h⟩
  | succ d => obtain ⟨a, c, h, _⟩ := h; exact ⟨a, _, c, h⟩

end Go.Proofs.Ytkfpfijblflcfaa
