/- Whether two rows of bytes are alike, as the law's own helper finds it: two rows that read as one list are. -/
import Derived.Test.YtkfpfijblflcfaaBytes
namespace Go.Proofs.Ytkfpfijblflcfaa
open Go.RowKit

/-- A slice that came in reads on as it did where nothing old has turned. -/
theorem IsRow.later {k : IntKind} {w w' : World} {a : Option Addr} {len cap : Nat} {zs : List Int} (h : IsRow k w a len cap zs) (hb : Below w.heap.size w w') : IsRow k w' a len cap zs := by
  rcases h with h | ⟨x, h1, h2, h3, h4, h5, h6⟩
  · exact .inl h
  · exact .inr ⟨x, h1, h2, h3, h4, fun i hi => cell_later hb (h5 i hi), h6⟩

theorem IsRow.range {w : World} {a : Option Addr} {len cap : Nat} {zs : List Int} (h : IsRow .u8 w a len cap zs) (j : Nat) : 0 ≤ (zs.take len)[j]?.getD 0 ∧ (zs.take len)[j]?.getD 0 ≤ 255 := by
  rcases h with ⟨_, _, _, rfl⟩ | ⟨x, _, _, _, _, _, h6⟩
  · simp
  · by_cases hj : j < (zs.take len).length
    · rw [List.getElem?_eq_getElem hj, Option.getD_some]
      exact wf_u8 (h6 _ (List.mem_of_mem_take (List.getElem_mem hj)))
    · rw [List.getElem?_eq_none (by omega)]; simp

theorem IsRow.length {k : IntKind} {w : World} {a : Option Addr} {len cap : Nat} {zs : List Int} (h : IsRow k w a len cap zs) : (zs.take len).length = len := by
  rcases h with ⟨_, rfl, _, rfl⟩ | ⟨x, _, h2, _, h4, _, _⟩
  · rfl
  · simp; omega

/-- WHAT A READER IS TOLD OF A SLICE OF BYTES: its elements, nothing of its spare room. -/
def Rd (w : World) (a : Option Addr) (len : Nat) (xs : List Int) : Prop :=
  xs.length = len ∧ ∀ i, i < len → ∃ b off, a = some ⟨b, off, none⟩ ∧ w.cell? ⟨b, off + i, none⟩ = some (.int .u8 (xs.getD i 0))

theorem Rd.later {w w' : World} {a : Option Addr} {len : Nat} {xs : List Int} (h : Rd w a len xs) (hb : Below w.heap.size w w') : Rd w' a len xs :=
  ⟨h.1, fun i hi => by obtain ⟨b, off, h1, h2⟩ := h.2 i hi; exact ⟨b, off, h1, cell_later hb h2⟩⟩

/-- The cells of a row of bytes of the call's own. -/
theorem own_cells {w : World} {base g n c : Nat} {zs : List Int} (h : w.ownsRow base 5 1 (.slice (some ⟨g, 0, none⟩) n c) n (zs.map (Value.int .u8))) : ∀ i, i < n → w.cell? ⟨g, 0 + i, none⟩ = some (.int .u8 (zs.getD i 0)) := by
  intro i hi
  have hl : zs.length = n := by have := h.1; simpa using this
  rw [Nat.zero_add, h.cellAt i (by omega)]
  simp [hl, hi]

theorem own_lt {w : World} {base g n c : Nat} {zs : List Value} (h : w.ownsRow base 5 1 (.slice (some ⟨g, 0, none⟩) n c) n zs) : g < w.heap.size := by
  rcases h.2 with ⟨h', _⟩ | ⟨g', cap', cur, h', _, hg, _⟩
  · simp at h'
  · simp only [Value.slice.injEq, Option.some.injEq, Addr.mk.injEq, and_true, true_and] at h'
    obtain ⟨rfl, rfl⟩ := h'
    exact Nat.lt_of_not_le fun hn => by simp [Array.getElem?_eq_none hn] at hg

theorem IsRow.rd {w : World} {a : Option Addr} {len cap : Nat} {zs : List Int} (h : IsRow .u8 w a len cap zs) : Rd w a len (zs.take len) := by
  refine ⟨h.length, fun i hi => ?_⟩
  rcases h with ⟨_, h1, _⟩ | ⟨⟨b, off, spot⟩, rfl, hl, _, hz, hc, _⟩
  · omega
  · have hc0 := hc 0 (by omega)
    have hspot : spot = none := by simpa [Addr.add] using World.cell?_spot hc0
    subst hspot
    have hci := hc i (by omega)
    rw [Addr.add_lit] at hci
    exact ⟨b, off, rfl, by rw [hci]; simp [hi]⟩

theorem own_rd {w : World} {base g n c : Nat} {zs : List Int} (h : w.ownsRow base 5 1 (.slice (some ⟨g, 0, none⟩) n c) n (zs.map (Value.int .u8))) : Rd w (some ⟨g, 0, none⟩) n zs :=
  ⟨by have := h.1; simpa using this, fun i hi => ⟨g, 0, rfl, own_cells h i hi⟩⟩

theorem own_weak {w : World} {B B' n : Nat} {v : Value} {xs : List Value} (h : w.ownsRow B 5 1 v n xs) (hb : B' ≤ B) : w.ownsRow B' 5 1 v n xs := by
  refine ⟨h.1, ?_⟩
  rcases h.2 with h2 | ⟨g, cap, cur, h1, h2, r⟩
  · exact .inl h2
  · exact .inr ⟨g, cap, cur, h1, Nat.le_trans hb h2, r⟩

theorem below_drewN {B : Nat} {a w : World} (h : Below B a w) (q : Nat) : Below B a (w.drewN q) := by
  induction q generalizing w with
  | zero => exact h
  | succ q ih => exact (ih h).drew

end Go.Proofs.Ytkfpfijblflcfaa
