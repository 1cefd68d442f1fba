/- Small helpers of the law: whether its bytes are too many. -/
import Derived.Test.YthjmbbpakidkdaaDrawT
import Derived.Test.YthjmbbpakidkdaaRound
namespace Go.Proofs.Ythjmbbpakidkdaa
open Go.RowKit

theorem range_of_mem {xs : List Int} (h : ∀ x ∈ xs, 0 ≤ x ∧ x ≤ 255) (j : Nat) : 0 ≤ xs[j]?.getD 0 ∧ xs[j]?.getD 0 ≤ 255 := by
  by_cases hj : j < xs.length
  · rw [List.getElem?_eq_getElem hj, Option.getD_some]; exact h _ (List.getElem_mem hj)
  · rw [List.getElem?_eq_none (by omega)]; simp

theorem nums_byte (s : ByteArray) : ∀ x ∈ nums s, 0 ≤ x ∧ x ≤ 255 := by
  intro x hx
  obtain ⟨b, _, rfl⟩ := List.mem_map.1 hx
  have := b.toNat_lt
  omega

theorem mem_app {xs ys : List Int} (h1 : ∀ x ∈ xs, 0 ≤ x ∧ x ≤ 255) (h2 : ∀ x ∈ ys, 0 ≤ x ∧ x ≤ 255) : ∀ x ∈ xs ++ ys, 0 ≤ x ∧ x ≤ 255 := fun x hx => by
  rcases List.mem_append.1 hx with h | h
  · exact h1 x h
  · exact h2 x h

/-- Reading a number behind the bytes: what the law asks of it. -/
theorem getNum_here (b off n cap : Nat) (p : Int) (zs : List Int) (w : World) (hz : zs.length = n) (hm : n ≤ 4611686018427387904)
    (hc : ∀ i, i < n → w.cell? ⟨b, off + i, none⟩ = some (.int .u8 (zs.getD i 0))) (hr : ∀ x ∈ zs, 0 ≤ x ∧ x ≤ 255) (r : Int × Int × Bool) (hg : getNum zs p = r) :
    Calls Try.prog 198 #[.slice (some ⟨b, off, none⟩) n cap, .int .i64 p] w fun e w' => e = .returned (.tuple #[.int .i64 r.1, .int .i64 r.2.1, .bool r.2.2]) ∧ w = w' := by
  refine (implGetNum_any b off n cap p zs w hz hm hc (range_of_mem hr)).mono ?_
  rintro e w' ⟨rfl, rfl⟩
  exact ⟨by rw [hg]; rfl, rfl⟩

theorem getText_here (b off n cap : Nat) (p : Int) (zs : List Int) (w : World) (hz : zs.length = n) (hm : n ≤ 1099511627776) (hcap : n ≤ cap) (hcm : cap ≤ 9223372036854775807)
    (hc : ∀ i, i < n → w.cell? ⟨b, off + i, none⟩ = some (.int .u8 (zs.getD i 0))) (hr : ∀ x ∈ zs, 0 ≤ x ∧ x ≤ 255) (s : ByteArray) (x : Int) (ok : Bool) (hg : getText zs p = (nums s, x, ok)) :
    Calls Try.prog 199 #[.slice (some ⟨b, off, none⟩) n cap, .int .i64 p] w fun e w' => e = .returned (.tuple #[.string s, .int .i64 x, .bool ok]) ∧ w = w' := by
  refine (implGetText_any b off n cap p zs w hz hm hcap hcm hc (range_of_mem hr)).mono ?_
  rintro e w' ⟨rfl, rfl⟩
  exact ⟨by rw [hg, threeT, strOfNums_nums], rfl⟩

theorem own_cap {w : World} {B g n c : Nat} {xs : List Value} (h : w.ownsRow B 5 1 (.slice (some ⟨g, 0, none⟩) n c) n xs) : n ≤ c ∧ c ≤ maxLen := by
  rcases h.2 with ⟨h', _⟩ | ⟨g', cap', cur, h', _, _, h1, h2, _⟩
  · simp at h'
  · simp only [Value.slice.injEq, Option.some.injEq, Addr.mk.injEq, and_true, true_and] at h'
    obtain ⟨rfl, rfl⟩ := h'
    exact ⟨h1, h2⟩

theorem cut_cells {w : World} {g n : Nat} {zs : List Int} (hz : zs.length = n + 1) (hc : ∀ i, i < n + 1 → w.cell? ⟨g, 0 + i, none⟩ = some (.int .u8 (zs.getD i 0))) : ∀ i, i < n → w.cell? ⟨g, 0 + i, none⟩ = some (.int .u8 (zs.dropLast.getD i 0)) := by
  intro i hi
  rw [hc i (by omega)]
  simp [hz, hi]
  rw [List.getElem?_eq_getElem (by omega), Option.getD_some]


theorem hn_len (xs ys : List Int) (N : Int) (n M : Nat) (hys : xs ++ enc (code N) = ys) (hn : xs.length = n) (hM : ys.length = M + 1) : ((n + (enc (code N)).length : Nat) : Int) = (M : Int) + 1 := by
  rw [← hys, List.length_append, hn] at hM
  omega

theorem clamp_ways (N : Int) : (clamp N = 1000000000000 ∧ 1000000000000 < N) ∨ (clamp N = -1000000000000 ∧ N < -1000000000000) ∨ (clamp N = N ∧ N ≤ 1000000000000 ∧ -1000000000000 ≤ N) := by
  unfold clamp
  split
  · exact .inl ⟨rfl, by assumption⟩
  · split
    · exact .inr (.inl ⟨rfl, by assumption⟩)
    · exact .inr (.inr ⟨rfl, by omega, by omega⟩)

end Go.Proofs.Ythjmbbpakidkdaa
