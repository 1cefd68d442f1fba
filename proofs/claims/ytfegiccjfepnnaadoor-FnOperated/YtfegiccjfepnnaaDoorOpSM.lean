/- What the law of operations holds in hand. -/
import Derived.Test.YtfegiccjfepnnaaDoorOp10M
import Derived.Test.YtfegiccjfepnnaaDoorLawTM
namespace Go.Proofs.YtfegiccjfepnnaaDoor
open Go.RowKit
set_option linter.unusedVariables false

/-- What lies below the law's own memory is as it was, and its boxes lie as told. -/
structure OQ (w V : World) (bs : List (Nat × Obj)) : Prop where
  b : Below w.heap.size w V
  at_ : ∀ x ∈ bs, w.heap.size ≤ x.1 ∧ V.heap[x.1]? = some x.2
theorem OQ.start (w : World) : OQ w w [] := ⟨Below.refl _ _, fun x h => absurd h List.not_mem_nil⟩
theorem OQ.later {w V V' : World} {bs : List (Nat × Obj)} (h : OQ w V bs) (hb : Below V.heap.size V V') : OQ w V' bs :=
  ⟨h.b.trans (hb.mono h.b.size), fun x hx => ⟨(h.at_ x hx).1, (hb.block _ (lt_row (h.at_ x hx).2)).trans (h.at_ x hx).2⟩⟩
theorem OQ.add {w V : World} {bs : List (Nat × Obj)} (h : OQ w V bs) (o : Obj) : OQ w (V.alloc o) ((V.heap.size, o) :: bs) :=
  ⟨h.b.alloc h.b.size _, fun x hx => by
    rcases List.mem_cons.1 hx with rfl | hx
    · exact ⟨h.b.size, heap_alloc_new V o⟩
    · exact (h.later ((Below.refl _ _).alloc (Nat.le_refl _) o)).at_ x hx⟩
theorem OQ.wrote {w V V' : World} {bs : List (Nat × Obj)} {fp : List Nat} (h : OQ w V bs) (hw : Wrote fp V V') (hf : ∀ g ∈ fp, w.heap.size ≤ g ∧ ∀ x ∈ bs, x.1 ≠ g) : OQ w V' bs :=
  ⟨h.b.trans ⟨hw.os, hw.tape, hw.output, hw.size, fun i hi => hw.block i (Nat.lt_of_lt_of_le hi h.b.size) fun hg => by have := (hf i hg).1; omega⟩,
   fun x hx => ⟨(h.at_ x hx).1, (hw.block _ (lt_row (h.at_ x hx).2) fun hg => (hf _ hg).2 x hx rfl).trans (h.at_ x hx).2⟩⟩
theorem OQ.few {w V : World} {bs bs' : List (Nat × Obj)} (h : OQ w V bs) (hs : ∀ x ∈ bs', x ∈ bs) : OQ w V bs' := ⟨h.b, fun x hx => h.at_ x (hs x hx)⟩
theorem OQ.four {w V : World} {bs : List (Nat × Obj)} (h : OQ w V bs) (b : Nat) (c0 c1 c2 c3 : Value) (t : TypeId) (hx : (b, Obj.cells #[c0, c1, c2, c3] t (0, 0)) ∈ bs) :
    V.cell? ⟨b, 0, none⟩ = some c0 ∧ V.cell? ⟨b, 1, none⟩ = some c1 ∧ V.cell? ⟨b, 2, none⟩ = some c2 ∧ V.cell? ⟨b, 3, none⟩ = some c3 := by
  have m := (h.at_ _ hx).2
  exact ⟨by rw [cell_of_row V _ 0 _ _ _ m]; rfl, by rw [cell_of_row V _ 1 _ _ _ m]; rfl, by rw [cell_of_row V _ 2 _ _ _ m]; rfl, by rw [cell_of_row V _ 3 _ _ _ m]; rfl⟩

/-- Besides: two terms of its own. -/
structure OX (d : Nat) (w V : World) (bs : List (Nat × Obj)) (v1 : Value) (u1 : List (Tm d)) (f1 : List Nat) (v2 : Value) (u2 : List (Tm d)) (f2 : List Nat) : Prop where
  q : OQ w V bs
  o1 : OwnL d V v1 u1 f1
  o2 : OwnL d V v2 u2 f2
  n1 : f1.Nodup
  n2 : f2.Nodup
  dis : ∀ g ∈ f1, g ∉ f2
  g1 : ∀ g ∈ f1, w.heap.size ≤ g ∧ ∀ x ∈ bs, x.1 ≠ g
  g2 : ∀ g ∈ f2, w.heap.size ≤ g ∧ ∀ x ∈ bs, x.1 ≠ g
variable {d : Nat} {w V V' : World} {bs : List (Nat × Obj)} {v1 v2 : Value} {u1 u2 : List (Tm d)} {f1 f2 : List Nat}
theorem OX.later (h : OX d w V bs v1 u1 f1 v2 u2 f2) (hb : Below V.heap.size V V') : OX d w V' bs v1 u1 f1 v2 u2 f2 :=
  ⟨h.q.later hb, h.o1.frame fun g hg => hb.block g (h.o1.lt g hg), h.o2.frame fun g hg => hb.block g (h.o2.lt g hg), h.n1, h.n2, h.dis, h.g1, h.g2⟩
theorem OX.add (h : OX d w V bs v1 u1 f1 v2 u2 f2) (o : Obj) : OX d w (V.alloc o) ((V.heap.size, o) :: bs) v1 u1 f1 v2 u2 f2 := by
  have hl := h.later ((Below.refl _ _).alloc (Nat.le_refl _) o)
  refine ⟨h.q.add o, hl.o1, hl.o2, h.n1, h.n2, h.dis, fun g hg => ⟨(h.g1 g hg).1, fun x hx => ?_⟩, fun g hg => ⟨(h.g2 g hg).1, fun x hx => ?_⟩⟩
  · rcases List.mem_cons.1 hx with rfl | hx
    · have := h.o1.lt g hg; show V.heap.size ≠ g; omega
    · exact (h.g1 g hg).2 x hx
  · rcases List.mem_cons.1 hx with rfl | hx
    · have := h.o2.lt g hg; show V.heap.size ≠ g; omega
    · exact (h.g2 g hg).2 x hx
theorem OX.mark1 {u1' : List (Tm d)} (h : OX d w V bs v1 u1 f1 v2 u2 f2) (hw : Wrote f1 V V') (ho : OwnL d V' v1 u1' f1) : OX d w V' bs v1 u1' f1 v2 u2 f2 :=
  ⟨h.q.wrote hw h.g1, ho, h.o2.frame fun g hg => hw.block g (h.o2.lt g hg) fun h1 => h.dis g h1 hg, h.n1, h.n2, h.dis, h.g1, h.g2⟩
theorem OX.mark2 (h : OX d w V bs v1 u1 f1 v2 u2 f2) (hw : Wrote f2 V V') : OQ w V' bs := h.q.wrote hw h.g2

end Go.Proofs.YtfegiccjfepnnaaDoor

/- What the law of operations holds in hand, more. -/
namespace Go.Proofs.YtfegiccjfepnnaaDoor
open Go.RowKit
set_option linter.unusedVariables false

theorem boxPut4 {V : World} {b : Nat} {a0 a1 a2 a3 : Value} {t : TypeId} (m : V.heap[b]? = some (.cells #[a0, a1, a2, a3] t (0, 0))) (c0 c1 c2 c3 : Value) :
    ((((V.setCell ⟨b, 0, none⟩ c0).setCell ⟨b, 1, none⟩ c1).setCell ⟨b, 2, none⟩ c2).setCell ⟨b, 3, none⟩ c3).heap[b]? = some (.cells #[c0, c1, c2, c3] t (0, 0)) := by
  have h0 := heap_setCell_same V b 0 _ t c0 m
  have h1 := heap_setCell_same _ b 1 _ t c1 h0
  have h2 := heap_setCell_same _ b 2 _ t c2 h1
  exact heap_setCell_same _ b 3 _ t c3 h2
theorem below4 {B : Nat} {w V : World} (h : Below B w V) {b : Nat} (hb : B ≤ b) (c0 c1 c2 c3 : Value) :
    Below B w ((((V.setCell ⟨b, 0, none⟩ c0).setCell ⟨b, 1, none⟩ c1).setCell ⟨b, 2, none⟩ c2).setCell ⟨b, 3, none⟩ c3) := by
  have h0 := h.setCell (p := ⟨b, 0, none⟩) hb c0
  have h1 := h0.setCell (p := ⟨b, 1, none⟩) hb c1
  have h2 := h1.setCell (p := ⟨b, 2, none⟩) hb c2
  exact h2.setCell (p := ⟨b, 3, none⟩) hb c3
theorem OQ.put4 {w V0 V : World} {bs : List (Nat × Obj)} (h : OQ w V0 bs) (hY : Below V0.heap.size V0 V) {b : Nat} (hb : V0.heap.size ≤ b) {a0 a1 a2 a3 : Value} {t : TypeId} (m : V.heap[b]? = some (.cells #[a0, a1, a2, a3] t (0, 0))) (c0 c1 c2 c3 : Value) :
    OQ w ((((V.setCell ⟨b, 0, none⟩ c0).setCell ⟨b, 1, none⟩ c1).setCell ⟨b, 2, none⟩ c2).setCell ⟨b, 3, none⟩ c3) ((b, .cells #[c0, c1, c2, c3] t) :: bs) := by
  have hl := h.later (below4 hY hb c0 c1 c2 c3)
  refine ⟨hl.b, fun x hx => ?_⟩
  rcases List.mem_cons.1 hx with rfl | hx
  · exact ⟨Nat.le_trans h.b.size hb, boxPut4 m c0 c1 c2 c3⟩
  · exact hl.at_ x hx
theorem OQ.add' {w V0 V : World} {bs : List (Nat × Obj)} (h : OQ w V0 bs) (hY : Below V0.heap.size V0 V) (o : Obj) : OQ w (V.alloc o) ((V.heap.size, o) :: bs) := (h.later hY).add o
theorem OX.make {d : Nat} {w V3 V4 C1 V5 C2 : World} {bs : List (Nat × Obj)} {v1 v2 : Value} {u1 u2 : List (Tm d)} {f1 f2 : List Nat} (h : OQ w V3 bs) (o1 : OwnL d V4 v1 u1 f1) (fr1 : Fresh V3.heap.size V4 f1) (b4 : Below V3.heap.size V3 V4) (x1 : Obj) (hC1 : C1 = V4.alloc x1) (o2 : OwnL d V5 v2 u2 f2) (fr2 : Fresh C1.heap.size V5 f2) (b5 : Below C1.heap.size C1 V5) (x2 : Obj) (hC2 : C2 = V5.alloc x2) :
    OX d w C2 ((V5.heap.size, x2) :: (V4.heap.size, x1) :: bs) v1 u1 f1 v2 u2 f2 := by
  subst hC1 hC2
  have hs1 : (V4.alloc x1).heap.size = V4.heap.size + 1 := by simp
  have e5 := b5.size
  have e4 := b4.size
  have e3 := h.b.size
  have q5 : OQ w V5 ((V4.heap.size, x1) :: bs) := ((h.later b4).add x1).later b5
  have hbs : ∀ x ∈ bs, x.1 < V3.heap.size := fun x hx => lt_row (h.at_ x hx).2
  have bA : Below V4.heap.size V4 (V4.alloc x1) := (Below.refl _ _).alloc (Nat.le_refl _) _
  have bB : Below V5.heap.size V5 (V5.alloc x2) := (Below.refl _ _).alloc (Nat.le_refl _) _
  refine ⟨q5.add x2, ?_, ?_, fr1.1, fr2.1, ?_, ?_, ?_⟩
  · exact ((o1.frame fun g hg => bA.block g (fr1.2 g hg).2).frame fun g hg => b5.block g (by have := (fr1.2 g hg).2; omega)).frame fun g hg => bB.block g (by have := (fr1.2 g hg).2; omega)
  · exact o2.frame fun g hg => bB.block g (fr2.2 g hg).2
  · intro g h1 h2
    have := (fr1.2 g h1).2
    have := (fr2.2 g h2).1
    omega
  · intro g hg
    have a1 := fr1.2 g hg
    refine ⟨by omega, fun x hx => ?_⟩
    rcases List.mem_cons.1 hx with rfl | hx
    · show V5.heap.size ≠ g; omega
    · rcases List.mem_cons.1 hx with rfl | hx
      · show V4.heap.size ≠ g; omega
      · have := hbs x hx; omega
  · intro g hg
    have a1 := fr2.2 g hg
    refine ⟨by omega, fun x hx => ?_⟩
    rcases List.mem_cons.1 hx with rfl | hx
    · show V5.heap.size ≠ g; omega
    · rcases List.mem_cons.1 hx with rfl | hx
      · show V4.heap.size ≠ g; omega
      · have := hbs x hx; omega
theorem OQ.none {w V V' : World} {bs : List (Nat × Obj)} (h : OQ w V bs) (hw : Wrote [] V V') : OQ w V' bs := h.wrote hw fun g hg => absurd hg List.not_mem_nil
theorem box4 {V : World} {b : Nat} {c0 c1 c2 c3 : Value} {t : TypeId} (m : V.heap[b]? = some (.cells #[c0, c1, c2, c3] t (0, 0))) : (V.cell? ⟨b, 0, none⟩ = some c0 ∧ V.cell? ⟨b, 1, none⟩ = some c1 ∧ V.cell? ⟨b, 2, none⟩ = some c2 ∧ V.cell? ⟨b, 3, none⟩ = some c3) ∧ V.frozen? ⟨b, 0, none⟩ = false ∧ V.frozen? ⟨b, 1, none⟩ = false ∧ V.frozen? ⟨b, 2, none⟩ = false ∧ V.frozen? ⟨b, 3, none⟩ = false :=
  ⟨⟨by rw [cell_of_row V _ 0 _ _ _ m]; rfl, by rw [cell_of_row V _ 1 _ _ _ m]; rfl, by rw [cell_of_row V _ 2 _ _ _ m]; rfl, by rw [cell_of_row V _ 3 _ _ _ m]; rfl⟩, frozen_of_row V _ _ _ _ m, frozen_of_row V _ _ _ _ m, frozen_of_row V _ _ _ _ m, frozen_of_row V _ _ _ _ m⟩
/-- The law's looks and marks at a term without parts. -/
theorem eqTerm_leaf (k n : Int) (s : ByteArray) (a1 a2 : Option Addr) (c1 c2 : Nat) (w : World) : Calls Tryd.prog 9 #[.agg #[.int .i64 k, .int .i64 n, .string s, .slice a1 0 c1], .agg #[.int .i64 k, .int .i64 n, .string s, .slice a2 0 c2]] w fun e w' => e = .returned (.bool true) ∧ Below w.heap.size w w' :=
  eqTerm_of 0 (eqTermS_any 0) k n s _ _ [] w ⟨a1, c1, rfl⟩ ⟨a2, c2, rfl⟩ trivial
theorem markTerm_leaf (k n : Int) (s : ByteArray) (a : Option Addr) (c : Nat) (w : World) : Calls Tryd.prog 10 #[.agg #[.int .i64 k, .int .i64 n, .string s, .slice a 0 c], .int .i64 1] w fun e w' => e = .returned (.int .i64 1) ∧ Wrote [] w w' :=
  (markTerm_of 0 k n s a 0 c [] [] 1 w ⟨⟨a, c, rfl⟩, rfl⟩ List.nodup_nil (by omega) (by show (1 : Int) + 3 * ((0 : Nat) : Int) ≤ _; omega)).mono fun e w' h => ⟨h.1, h.2.2⟩
theorem heldTerm_leaf (k n : Int) (s : ByteArray) (a : Option Addr) (c : Nat) (w : World) : Calls Tryd.prog 11 #[.agg #[.int .i64 k, .int .i64 n, .string s, .slice a 0 c], .int .i64 1] w fun e w' => e = .returned (.int .i64 1) ∧ Below w.heap.size w w' :=
  (heldTerm_of 0 k n s a 0 c [] 1 w ⟨a, c, rfl⟩ (by omega) (by show (1 : Int) + 3 * ((0 : Nat) : Int) ≤ _; omega)).mono fun e w' h => ⟨h.1, h.2⟩

end Go.Proofs.YtfegiccjfepnnaaDoor
