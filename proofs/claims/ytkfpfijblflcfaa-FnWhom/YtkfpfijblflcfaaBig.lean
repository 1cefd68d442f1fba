/- Small helpers of the law: whether its bytes are too many. -/
import Derived.Test.YtkfpfijblflcfaaDrawT
import Derived.Test.YtkfpfijblflcfaaRound
namespace Go.Proofs.Ytkfpfijblflcfaa
open Go.RowKit

theorem range_of_mem {xs : List Int} (h : ∀ x ∈ xs, 0 ≤ x ∧ x ≤ 255) (j : Nat) : 0 ≤ xs[j]?.getD 0 ∧ xs[j]?.getD 0 ≤ 255 := by
  by_cases hj : j < xs.length
  · rw [List.getElem?_eq_getElem hj, Option.getD_some]; exact h _ (List.getElem_mem hj)
  · rw [List.getElem?_eq_none (by omega)]; simp

theorem nums_byte (s : ByteArray) : ∀ x ∈ nums s, 0 ≤ x ∧ x ≤ 255 := by
  intro x hx
  obtain ⟨b, _, rfl⟩ := List.mem_map.1 hx
  have := b.toNat_lt
  omega

theorem mem_app {xs ys : List Int} (h1 : ∀ x ∈ xs, 0 ≤ x ∧ x ≤ 255) (h2 : ∀ x ∈ ys, 0 ≤ x ∧ x ≤ 255) : ∀ x ∈ xs ++ ys, 0 ≤ x ∧ x ≤ 255 := fun x hx => by
  rcases List.mem_append.1 hx with h | h
  · exact h1 x h
  · exact h2 x h

theorem own_cap {w : World} {B g n c : Nat} {xs : List Value} (h : w.ownsRow B 5 1 (.slice (some ⟨g, 0, none⟩) n c) n xs) : n ≤ c ∧ c ≤ maxLen := by
  rcases h.2 with ⟨h', _⟩ | ⟨g', cap', cur, h', _, _, h1, h2, _⟩
  · simp at h'
  · simp only [Value.slice.injEq, Option.some.injEq, Addr.mk.injEq, and_true, true_and] at h'
    obtain ⟨rfl, rfl⟩ := h'
    exact ⟨h1, h2⟩

theorem cut_cells {w : World} {g n : Nat} {zs : List Int} (hz : zs.length = n + 1) (hc : ∀ i, i < n + 1 → w.cell? ⟨g, 0 + i, none⟩ = some (.int .u8 (zs.getD i 0))) : ∀ i, i < n → w.cell? ⟨g, 0 + i, none⟩ = some (.int .u8 (zs.dropLast.getD i 0)) := by
  intro i hi
  rw [hc i (by omega)]
  simp [hz, hi]
  rw [List.getElem?_eq_getElem (by omega), Option.getD_some]


theorem hn_len (xs ys : List Int) (N : Int) (n M : Nat) (hys : xs ++ enc (code N) = ys) (hn : xs.length = n) (hM : ys.length = M + 1) : ((n + (enc (code N)).length : Nat) : Int) = (M : Int) + 1 := by
  rw [← hys, List.length_append, hn] at hM
  omega

theorem clamp_ways (N : Int) : (clamp N = 1000000000000 ∧ 1000000000000 < N) ∨ (clamp N = -1000000000000 ∧ N < -1000000000000) ∨ (clamp N = N ∧ N ≤ 1000000000000 ∧ -1000000000000 ≤ N) := by
  unfold clamp
  split
  · exact .inl ⟨rfl, by assumption⟩
  · split
    · exact .inr (.inl ⟨rfl, by assumption⟩)
    · exact .inr (.inr ⟨rfl, by omega, by omega⟩)

end Go.Proofs.Ytkfpfijblflcfaa
