/- Who goes with a kid: what the list is, in the law's own words. -/
import Derived.Test.YtkfpfijblflcfaaWh2
import Derived.Test.YtkfpfijblflcfaaMk0
import Derived.Test.YtkfpfijblflcfaaHd0
namespace Go.Proofs.Ytkfpfijblflcfaa
open Go.RowKit
set_option linter.unusedVariables false

theorem rng_mem {a : Int} {n : Nat} {x : Int} (h : x ∈ rngI a n) : a ≤ x ∧ x < a + (n : Int) := by
  obtain ⟨k, hk, rfl⟩ := List.mem_map.1 h
  have := List.mem_range.1 hk
  omega
theorem whom_mem {way n i x : Int} (h : x ∈ whomL way n i) : 0 ≤ x ∧ x < n ∧ n ≤ 100 := by
  unfold whomL at h
  split at h
  · rename_i h0
    split at h
    · have := List.mem_singleton.1 h; omega
    split at h
    · have := rng_mem h; omega
    split at h
    · have := rng_mem h; omega
    · cases h
  · cases h
theorem whom_len (way n i : Int) : (whomL way n i).length ≤ 100 := by
  unfold whomL
  split
  · split
    · simp
    split
    · rw [rngI_len]; omega
    split
    · rw [rngI_len]; omega
    · simp
  · simp
theorem whom_wf (way n i : Int) : WfRow I64 (whomL way n i) ∧ (whomL way n i).length ≤ 100 :=
  ⟨⟨by have := whom_len way n i; omega, fun x hx => by have := whom_mem hx; constructor <;> omega⟩, whom_len way n i⟩
theorem ck_ints (l : List Int) : (l.map ckI).sum = l.length := by
  induction l with
  | nil => rfl
  | cons x l ih => rw [List.map_cons, List.sum_cons, ih, List.length_cons]; show 1 + _ = _; omega

end Go.Proofs.Ytkfpfijblflcfaa
