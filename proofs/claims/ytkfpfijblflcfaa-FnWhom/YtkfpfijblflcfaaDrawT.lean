/- What a draw of bytes and a text comes to: both of few bytes, in new memory; nothing old is written. -/
import Derived.Test.YtkfpfijblflcfaaDraw
namespace Go.Proofs.Ytkfpfijblflcfaa
open Go.RowKit

theorem own_convert {w : World} {B g n c : Nat} {xs : List Int} (h : w.ownsRow B 5 1 (.slice (some ⟨g, 0, none⟩) n c) n (xs.map (Value.int .u8))) :
    (convert 22 9 (.slice (some ⟨g, 0, none⟩) n c)).run Try.prog w = .ok (.string (strOfNums xs)) w :=
  run_convert_bytes_arg w 22 5 Try.underlying22 Try.underlying5 g 0 n c xs (by have := h.1; simpa using this) (own_cells h) 9 Try.underlying9

end Go.Proofs.Ytkfpfijblflcfaa
