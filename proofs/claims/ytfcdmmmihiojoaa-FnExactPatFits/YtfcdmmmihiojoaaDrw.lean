/- What every draw begins with: a new cursor; an element of a list of texts; and the law's limit. -/
import Derived.Test.YtfcdmmmihiojoaaCur
namespace Go.Proofs.Ytfcdmmmihiojoaa
open Go.RowKit

/-- The cells of a list that the call has just laid. -/
theorem list_cells (w : World) (ns : List Int) (vs : Array Value) (t : TypeId) (h : vs = (ns.map (Value.int .i64)).toArray) : ∀ j, j < ns.length → (w.alloc (.cells vs t)).cell? ⟨w.heap.size, 0 + j, none⟩ = some (.int .i64 (ns.getD j 0)) := by
  intro j hj
  rw [World.cell?_alloc_at vs t w.heap.size (0 + j) rfl, h]
  simp [hj]

/-- The block of a slice that came in is none that is laid later. -/
theorem isRow_old {k : IntKind} {w : World} {a : Option Addr} {len cap : Nat} {zs : List Int} (hr : IsRow k w a len cap zs) : ∀ x, a = some x → 0 < cap → x.block ≠ w.heap.size := by
  intro x hx h0 e
  rcases hr with ⟨h1, _⟩ | ⟨y, h1, h2, _, h4, h5, _⟩
  · simp [h1] at hx
  · have hlt := World.block_lt_of_cell? _ _ (h5 0 (by omega))
    have hb : (y.add 0).block = y.block := by unfold Addr.add; split <;> rfl
    rw [hx] at h1
    cases h1
    omega

theorem grown_below {w w' : World} {B p : Nat} (h : w.grownBy w' (some p)) (hp : B ≤ p) (hB : B ≤ w.heap.size) : Below B w w' := (Below.refl _ w).grown h hB (fun k hk => by cases hk; exact hp)

/-- The cells of a list of texts that the call has just laid. -/
theorem list_cellsS (w : World) (ns : List ByteArray) (vs : Array Value) (t : TypeId) (h : vs = (ns.map Value.string).toArray) : ∀ j, j < ns.length → (w.alloc (.cells vs t)).cell? ⟨w.heap.size, 0 + j, none⟩ = some (.string (ns.getD j ⟨#[]⟩)) := by
  intro j hj
  rw [World.cell?_alloc_at vs t w.heap.size (0 + j) rfl, h]
  simp [hj]

theorem grown_set {w w2 : World} {p g j : Nat} {u : Value} (h : w.grownBy w2 (some p)) (hg : w.heap.size ≤ g) : w.grownBy (w2.setCell ⟨g, j, none⟩ u) (some p) :=
  ⟨h.os, h.tape, h.output, by simpa using h.size, fun k hk hne => (heap_setCell_other w2 ⟨g, j, none⟩ k u (fun e => by simp at e; omega)).trans (h.block k hk hne)⟩
end Go.Proofs.Ytfcdmmmihiojoaa
