/- What the law of operations holds in hand. -/
import Derived.Test.YtfegiccjfepnnaaDoorOp10M
import Derived.Test.YtfegiccjfepnnaaDoorLawTM
import Derived.Deep.RegionHeld3
import Derived.Deep.DeepCutAuto
namespace Go.Proofs.YtfegiccjfepnnaaDoor
open Go.RowKit
set_option linter.unusedVariables false

/-- What lies below the law's own memory is as it was, and its boxes lie as told. -/
structure OQ (w V : World) (bs : List (Nat × Obj)) : Prop where
  b : Below w.heap.size w V
  at_ : ∀ x ∈ bs, w.heap.size ≤ x.1 ∧ V.heap[x.1]? = some x.2
theorem OQ.start (w : World) : OQ w w [] := ⟨Below.refl _ _, fun x h => absurd h List.not_mem_nil⟩
theorem OQ.later {w V V' : World} {bs : List (Nat × Obj)} (h : OQ w V bs) (hb : Below V.heap.size V V') : OQ w V' bs :=
  ⟨h.b.trans (hb.mono h.b.size), fun x hx => ⟨(h.at_ x hx).1, (hb.block _ (lt_row (h.at_ x hx).2)).trans (h.at_ x hx).2⟩⟩
theorem OQ.add {w V : World} {bs : List (Nat × Obj)} (h : OQ w V bs) (o : Obj) : OQ w (V.alloc o) ((V.heap.size, o) :: bs) :=
  ⟨h.b.alloc h.b.size _, fun x hx => by
    rcases List.mem_cons.1 hx with rfl | hx
    · exact ⟨h.b.size, heap_alloc_new V o⟩
    · exact (h.later ((Below.refl _ _).alloc (Nat.le_refl _) o)).at_ x hx⟩
theorem OQ.wrote {w V V' : World} {bs : List (Nat × Obj)} {fp : List Nat} (h : OQ w V bs) (hw : Wrote fp V V') (hf : ∀ g ∈ fp, w.heap.size ≤ g ∧ ∀ x ∈ bs, x.1 ≠ g) : OQ w V' bs :=
  ⟨h.b.trans ⟨hw.os, hw.tape, hw.output, hw.size, fun i hi => hw.block i (Nat.lt_of_lt_of_le hi h.b.size) fun hg => by have := (hf i hg).1; omega⟩,
   fun x hx => ⟨(h.at_ x hx).1, (hw.block _ (lt_row (h.at_ x hx).2) fun hg => (hf _ hg).2 x hx rfl).trans (h.at_ x hx).2⟩⟩
theorem OQ.few {w V : World} {bs bs' : List (Nat × Obj)} (h : OQ w V bs) (hs : ∀ x ∈ bs', x ∈ bs) : OQ w V bs' := ⟨h.b, fun x hx => h.at_ x (hs x hx)⟩
theorem OQ.four {w V : World} {bs : List (Nat × Obj)} (h : OQ w V bs) (b : Nat) (c0 c1 c2 c3 : Value) (t : TypeId) (hx : (b, Obj.cells #[c0, c1, c2, c3] t (0, 0)) ∈ bs) :
    V.cell? ⟨b, 0, none⟩ = some c0 ∧ V.cell? ⟨b, 1, none⟩ = some c1 ∧ V.cell? ⟨b, 2, none⟩ = some c2 ∧ V.cell? ⟨b, 3, none⟩ = some c3 := by
  have m := (h.at_ _ hx).2
  exact ⟨by rw [cell_of_row V _ 0 _ _ _ m]; rfl, by rw [cell_of_row V _ 1 _ _ _ m]; rfl, by rw [cell_of_row V _ 2 _ _ _ m]; rfl, by rw [cell_of_row V _ 3 _ _ _ m]; rfl⟩

/-- Besides: two terms of its own. -/
structure OX (d : Nat) (w V : World) (bs : List (Nat × Obj)) (v1 : Value) (u1 : List (Tm d)) (f1 : List Nat) (v2 : Value) (u2 : List (Tm d)) (f2 : List Nat) : Prop where
  q : OQ w V bs
  o1 : OwnL d V v1 u1 f1
  o2 : OwnL d V v2 u2 f2
  n1 : f1.Nodup
  n2 : f2.Nodup
  dis : ∀ g ∈ f1, g ∉ f2
  g1 : ∀ g ∈ f1, w.heap.size ≤ g ∧ ∀ x ∈ bs, x.1 ≠ g
  g2 : ∀ g ∈ f2, w.heap.size ≤ g ∧ ∀ x ∈ bs, x.1 ≠ g
variable {d : Nat} {w V V' : World} {bs : List (Nat × Obj)} {v1 v2 : Value} {u1 u2 : List (Tm d)} {f1 f2 : List Nat}
theorem OX.later (h : OX d w V bs v1 u1 f1 v2 u2 f2) (hb : Below V.heap.size V V') : OX d w V' bs v1 u1 f1 v2 u2 f2 :=
  ⟨h.q.later hb, h.o1.frame fun g hg => hb.block g (h.o1.lt g hg), h.o2.frame fun g hg => hb.block g (h.o2.lt g hg), h.n1, h.n2, h.dis, h.g1, h.g2⟩
theorem OX.add (h : OX d w V bs v1 u1 f1 v2 u2 f2) (o : Obj) : OX d w (V.alloc o) ((V.heap.size, o) :: bs) v1 u1 f1 v2 u2 f2 := by
  have hl := h.later ((Below.refl _ _).alloc (Nat.le_refl _) o)
  refine ⟨h.q.add o, hl.o1, hl.o2, h.n1, h.n2, h.dis, fun g hg => ⟨(h.g1 g hg).1, fun x hx => ?_⟩, fun g hg => ⟨(h.g2 g hg).1, fun x hx => ?_⟩⟩
  · rcases List.mem_cons.1 hx with rfl | hx
    · have := h.o1.lt g hg; show V.heap.size ≠ g; omega
    · exact (h.g1 g hg).2 x hx
  · rcases List.mem_cons.1 hx with rfl | hx
    · have := h.o2.lt g hg; show V.heap.size ≠ g; omega
    · exact (h.g2 g hg).2 x hx
theorem OX.mark1 {u1' : List (Tm d)} (h : OX d w V bs v1 u1 f1 v2 u2 f2) (hw : Wrote f1 V V') (ho : OwnL d V' v1 u1' f1) : OX d w V' bs v1 u1' f1 v2 u2 f2 :=
  ⟨h.q.wrote hw h.g1, ho, h.o2.frame fun g hg => hw.block g (h.o2.lt g hg) fun h1 => h.dis g h1 hg, h.n1, h.n2, h.dis, h.g1, h.g2⟩
theorem OX.mark2 (h : OX d w V bs v1 u1 f1 v2 u2 f2) (hw : Wrote f2 V V') : OQ w V' bs := h.q.wrote hw h.g2

end Go.Proofs.YtfegiccjfepnnaaDoor

/- What the law of operations holds in hand, more. -/
namespace Go.Proofs.YtfegiccjfepnnaaDoor
open Go.RowKit
set_option linter.unusedVariables false

theorem boxPut4 {V : World} {b : Nat} {a0 a1 a2 a3 : Value} {t : TypeId} (m : V.heap[b]? = some (.cells #[a0, a1, a2, a3] t (0, 0))) (c0 c1 c2 c3 : Value) :
    ((((V.setCell ⟨b, 0, none⟩ c0).setCell ⟨b, 1, none⟩ c1).setCell ⟨b, 2, none⟩ c2).setCell ⟨b, 3, none⟩ c3).heap[b]? = some (.cells #[c0, c1, c2, c3] t (0, 0)) := by
  have h0 := heap_setCell_same V b 0 _ t c0 m
  have h1 := heap_setCell_same _ b 1 _ t c1 h0
  have h2 := heap_setCell_same _ b 2 _ t c2 h1
  exact heap_setCell_same _ b 3 _ t c3 h2
theorem below4 {B : Nat} {w V : World} (h : Below B w V) {b : Nat} (hb : B ≤ b) (c0 c1 c2 c3 : Value) :
    Below B w ((((V.setCell ⟨b, 0, none⟩ c0).setCell ⟨b, 1, none⟩ c1).setCell ⟨b, 2, none⟩ c2).setCell ⟨b, 3, none⟩ c3) := by
  have h0 := h.setCell (p := ⟨b, 0, none⟩) hb c0
  have h1 := h0.setCell (p := ⟨b, 1, none⟩) hb c1
  have h2 := h1.setCell (p := ⟨b, 2, none⟩) hb c2
  exact h2.setCell (p := ⟨b, 3, none⟩) hb c3
theorem OQ.put4 {w V0 V : World} {bs : List (Nat × Obj)} (h : OQ w V0 bs) (hY : Below V0.heap.size V0 V) {b : Nat} (hb : V0.heap.size ≤ b) {a0 a1 a2 a3 : Value} {t : TypeId} (m : V.heap[b]? = some (.cells #[a0, a1, a2, a3] t (0, 0))) (c0 c1 c2 c3 : Value) :
    OQ w ((((V.setCell ⟨b, 0, none⟩ c0).setCell ⟨b, 1, none⟩ c1).setCell ⟨b, 2, none⟩ c2).setCell ⟨b, 3, none⟩ c3) ((b, .cells #[c0, c1, c2, c3] t) :: bs) := by
  have hl := h.later (below4 hY hb c0 c1 c2 c3)
  refine ⟨hl.b, fun x hx => ?_⟩
  rcases List.mem_cons.1 hx with rfl | hx
  · exact ⟨Nat.le_trans h.b.size hb, boxPut4 m c0 c1 c2 c3⟩
  · exact hl.at_ x hx
theorem OQ.add' {w V0 V : World} {bs : List (Nat × Obj)} (h : OQ w V0 bs) (hY : Below V0.heap.size V0 V) (o : Obj) : OQ w (V.alloc o) ((V.heap.size, o) :: bs) := (h.later hY).add o
theorem OX.make {d : Nat} {w V3 V4 C1 V5 C2 : World} {bs : List (Nat × Obj)} {v1 v2 : Value} {u1 u2 : List (Tm d)} {f1 f2 : List Nat} (h : OQ w V3 bs) (o1 : OwnL d V4 v1 u1 f1) (fr1 : Fresh V3.heap.size V4 f1) (b4 : Below V3.heap.size V3 V4) (x1 : Obj) (hC1 : C1 = V4.alloc x1) (o2 : OwnL d V5 v2 u2 f2) (fr2 : Fresh C1.heap.size V5 f2) (b5 : Below C1.heap.size C1 V5) (x2 : Obj) (hC2 : C2 = V5.alloc x2) :
    OX d w C2 ((V5.heap.size, x2) :: (V4.heap.size, x1) :: bs) v1 u1 f1 v2 u2 f2 := by
  subst hC1 hC2
  have hs1 : (V4.alloc x1).heap.size = V4.heap.size + 1 := by simp
  have e5 := b5.size
  have e4 := b4.size
  have e3 := h.b.size
  have q5 : OQ w V5 ((V4.heap.size, x1) :: bs) := ((h.later b4).add x1).later b5
  have hbs : ∀ x ∈ bs, x.1 < V3.heap.size := fun x hx => lt_row (h.at_ x hx).2
  have bA : Below V4.heap.size V4 (V4.alloc x1) := (Below.refl _ _).alloc (Nat.le_refl _) _
  have bB : Below V5.heap.size V5 (V5.alloc x2) := (Below.refl _ _).alloc (Nat.le_refl _) _
  refine ⟨q5.add x2, ?_, ?_, fr1.1, fr2.1, ?_, ?_, ?_⟩
  · exact ((o1.frame fun g hg => bA.block g (fr1.2 g hg).2).frame fun g hg => b5.block g (by have := (fr1.2 g hg).2; omega)).frame fun g hg => bB.block g (by have := (fr1.2 g hg).2; omega)
  · exact o2.frame fun g hg => bB.block g (fr2.2 g hg).2
  · intro g h1 h2
    have := (fr1.2 g h1).2
    have := (fr2.2 g h2).1
    omega
  · intro g hg
    have a1 := fr1.2 g hg
    refine ⟨by omega, fun x hx => ?_⟩
    rcases List.mem_cons.1 hx with rfl | hx
    · show V5.heap.size ≠ g; omega
    · rcases List.mem_cons.1 hx with rfl | hx
      · show V4.heap.size ≠ g; omega
      · have := hbs x hx; omega
  · intro g hg
    have a1 := fr2.2 g hg
    refine ⟨by omega, fun x hx => ?_⟩
    rcases List.mem_cons.1 hx with rfl | hx
    · show V5.heap.size ≠ g; omega
    · rcases List.mem_cons.1 hx with rfl | hx
      · show V4.heap.size ≠ g; omega
      · have := hbs x hx; omega
theorem OQ.none {w V V' : World} {bs : List (Nat × Obj)} (h : OQ w V bs) (hw : Wrote [] V V') : OQ w V' bs := h.wrote hw fun g hg => absurd hg List.not_mem_nil
theorem box4 {V : World} {b : Nat} {c0 c1 c2 c3 : Value} {t : TypeId} (m : V.heap[b]? = some (.cells #[c0, c1, c2, c3] t (0, 0))) : (V.cell? ⟨b, 0, none⟩ = some c0 ∧ V.cell? ⟨b, 1, none⟩ = some c1 ∧ V.cell? ⟨b, 2, none⟩ = some c2 ∧ V.cell? ⟨b, 3, none⟩ = some c3) ∧ V.frozen? ⟨b, 0, none⟩ = false ∧ V.frozen? ⟨b, 1, none⟩ = false ∧ V.frozen? ⟨b, 2, none⟩ = false ∧ V.frozen? ⟨b, 3, none⟩ = false :=
  ⟨⟨by rw [cell_of_row V _ 0 _ _ _ m]; rfl, by rw [cell_of_row V _ 1 _ _ _ m]; rfl, by rw [cell_of_row V _ 2 _ _ _ m]; rfl, by rw [cell_of_row V _ 3 _ _ _ m]; rfl⟩, frozen_of_row V _ _ _ _ m, frozen_of_row V _ _ _ _ m, frozen_of_row V _ _ _ _ m, frozen_of_row V _ _ _ _ m⟩
/-- The law's looks and marks at a term without parts. -/
theorem eqTerm_leaf (k n : Int) (s : ByteArray) (a1 a2 : Option Addr) (c1 c2 : Nat) (w : World) : Calls Tryd.prog 9 #[.agg #[.int .i64 k, .int .i64 n, .string s, .slice a1 0 c1], .agg #[.int .i64 k, .int .i64 n, .string s, .slice a2 0 c2]] w fun e w' => e = .returned (.bool true) ∧ Below w.heap.size w w' :=
  eqTerm_of 0 (eqTermS_any 0) k n s _ _ [] w ⟨a1, c1, rfl⟩ ⟨a2, c2, rfl⟩ trivial
theorem markTerm_leaf (k n : Int) (s : ByteArray) (a : Option Addr) (c : Nat) (w : World) : Calls Tryd.prog 10 #[.agg #[.int .i64 k, .int .i64 n, .string s, .slice a 0 c], .int .i64 1] w fun e w' => e = .returned (.int .i64 1) ∧ Wrote [] w w' :=
  (markTerm_of 0 k n s a 0 c [] [] 1 w ⟨⟨a, c, rfl⟩, rfl⟩ List.nodup_nil (by omega) (by show (1 : Int) + 3 * ((0 : Nat) : Int) ≤ _; omega)).mono fun e w' h => ⟨h.1, h.2.2⟩
theorem heldTerm_leaf (k n : Int) (s : ByteArray) (a : Option Addr) (c : Nat) (w : World) : Calls Tryd.prog 11 #[.agg #[.int .i64 k, .int .i64 n, .string s, .slice a 0 c], .int .i64 1] w fun e w' => e = .returned (.int .i64 1) ∧ Below w.heap.size w w' :=
  (heldTerm_of 0 k n s a 0 c [] 1 w ⟨a, c, rfl⟩ (by omega) (by show (1 : Int) + 3 * ((0 : Nat) : Int) ≤ _; omega)).mono fun e w' h => ⟨h.1, h.2⟩

end Go.Proofs.YtfegiccjfepnnaaDoor

/- The law of operations: its walk. -/
namespace Go.Proofs.YtfegiccjfepnnaaDoor
open Go.RowKit
set_option linter.unusedVariables false

set_option maxRecDepth 100000 in
set_option maxHeartbeats 8000000 in
theorem operate_walk {d : Nat} (a0 : ByteArray) (k1 n1 : Int) (s1 : ByteArray) (l1 : Value) (t1 : List (Tm d)) (wk1 : I64 k1) (wn1 : I64 n1) (ws1 : s1.size ≤ maxLen) (k2 n2 : Int) (s2 : ByteArray) (l2 : Value) (t2 : List (Tm d)) (wk2 : I64 k2) (wn2 : I64 n2) (ws2 : s2.size ≤ maxLen) (w : World) (r1 : RdL d w l1 t1) (f1 : WfL d t1) (r2 : RdL d w l2 t2) (f2 : WfL d t2) (hty : ErrTy w) :
    Calls Tryd.prog 3 #[.string a0, .agg #[.int .i64 k1, .int .i64 n1, .string s1, l1], .agg #[.int .i64 k2, .int .i64 n2, .string s2, l2]] w fun e w' => e = .returned (.bool true) ∧ Below w.heap.size w w' := by
  have HE : Hid (∀ V : World, Below w.heap.size w V → ErrTy V) := fun V hV => hty.later hV
  obtain ⟨aa, ca, e1⟩ := r1.len
  obtain ⟨la, hla⟩ : ∃ l, t1.length = l := ⟨_, rfl⟩
  rw [hla] at e1
  subst e1
  obtain ⟨ab, cb, e2⟩ := r2.len
  obtain ⟨lb, hlb⟩ : ∃ l, t2.length = l := ⟨_, rfl⟩
  rw [hlb] at e2
  subst e2
  have hsa : s1.size ≤ 9223372036854775807 := Nat.le_trans ws1 (by decide)
  have hsb : s2.size ≤ 9223372036854775807 := Nat.le_trans ws2 (by decide)
  have hmx : maxLen ≤ 9223372036854775807 := by decide
  have HSA : Hid (s1.size ≤ 9223372036854775807 ∧ s2.size ≤ 9223372036854775807) := ⟨hsa, hsb⟩
  have HFA : Hid (WfL d t1 ∧ WfL d t2) := ⟨f1, f2⟩
  by_cases hnm : a0.size ≤ 1048576
  case neg =>
    have hnm' : (1048576 : Int) < (a0.size : Int) := by omega
    have HQ : Hid (OQ w _ _) := ((OQ.start w).add (.cells #[.int .i64 k1, .int .i64 n1, .string s1, .slice aa la ca] 24)).add (.cells #[.int .i64 k2, .int .i64 n2, .string s2, .slice ab lb cb] 24)
    clear r1 f1 r2 f2 hnm
    go_enter Tryd.func3, Tryd.ntmps3
    go_wp2_with fail
    go_ret
    exact ⟨rfl, HQ.out.b⟩
  have hnm' : ¬ (1048576 : Int) < (a0.size : Int) := by omega
  obtain ⟨W, hW⟩ : ∃ W, W = (w.alloc (.cells #[.int .i64 k1, .int .i64 n1, .string s1, .slice aa la ca] 24)).alloc (.cells #[.int .i64 k2, .int .i64 n2, .string s2, .slice ab lb cb] 24) := ⟨_, rfl⟩
  have HQ0 : Hid (OQ w W [(w.heap.size + 1, .cells #[.int .i64 k2, .int .i64 n2, .string s2, .slice ab lb cb] 24), (w.heap.size, .cells #[.int .i64 k1, .int .i64 n1, .string s1, .slice aa la ca] 24)]) := by
    rw [hW]
    have := ((OQ.start w).add (.cells #[.int .i64 k1, .int .i64 n1, .string s1, .slice aa la ca] 24)).add (.cells #[.int .i64 k2, .int .i64 n2, .string s2, .slice ab lb cb] 24)
    rw [show (w.alloc (.cells #[.int .i64 k1, .int .i64 n1, .string s1, .slice aa la ca] 24)).heap.size = w.heap.size + 1 from by simp] at this
    exact this
  have HRA : Hid (∀ V : World, Below w.heap.size w V → RdL d V (.slice aa la ca) t1) := fun V hV => r1.later hV
  have HRB : Hid (∀ V : World, Below w.heap.size w V → RdL d V (.slice ab lb cb) t2) := fun V hV => r2.later hV
  have hC := szTerm_of d (szTermS_any d) k1 n1 s1 _ t1 1048576 W (HRA.out W HQ0.out.b) f1 ws1 (by omega) (by omega)
  rw [hW] at hC
  have HW : Hid (W = _) := hW
  have HS2 : Hid (s2.size ≤ maxLen) := ws2
  clear r1 r2 f1 f2 hla hlb hnm hW ws1 ws2 hsa hsb wk1 wn1 wk2 wn2 hty
  go_enter Tryd.func3, Tryd.ntmps3
  go_wp2_with fail
  refine hC.mono ?_
  clear hC
  rintro e wa ⟨rfl, bela⟩
  rw [← HW.out] at bela
  have HQ1 := HQ0.out.later bela
  clear bela HW HQ0
  by_cases hz : s1.size + szL d t1 ≤ 1048576
  case neg =>
    have hl : lft 1048576 (s1.size + szL d t1) = -1 := by unfold lft; rw [if_neg (by omega)]
    rw [hl]
    have HQ : Hid (OQ w wa _) := HQ1
    clear hz hl HQ1
    go_wp2_with fail
    go_ret
    exact ⟨rfl, HQ.out.b⟩
  obtain ⟨y1, hy1, hy1a, hy1b⟩ : ∃ x : Int, lft 1048576 (s1.size + szL d t1) = x ∧ 0 ≤ x ∧ x ≤ 1048576 := ⟨_, rfl, by unfold lft; rw [if_pos (by omega)]; omega, by unfold lft; rw [if_pos (by omega)]; omega⟩
  rw [hy1]
  have hy1c : ¬ y1 < 0 := by omega
  have HZ1 : Hid (szL d t1 ≤ 1048576) := by show _ ≤ _; omega
  have hC := szTerm_of d (szTermS_any d) k2 n2 s2 _ t2 y1 wa (HRB.out wa HQ1.b) HFA.out.2 HS2.out hy1a hy1b
  obtain ⟨y0, y1', y2, y3⟩ := HQ1.four (w.heap.size + 1) _ _ _ _ _ (by first | exact .head _ | exact .tail _ (.head _) | exact .tail _ (.tail _ (.head _)) | exact .tail _ (.tail _ (.tail _ (.head _))) | exact .tail _ (.tail _ (.tail _ (.tail _ (.head _)))) | exact .tail _ (.tail _ (.tail _ (.tail _ (.tail _ (.head _)))))| exact .tail _ (.tail _ (.tail _ (.tail _ (.tail _ (.tail _ (.head _)))))))
  have HQ2 : Hid (OQ w wa _) := HQ1
  have HY : Hid (0 ≤ y1 ∧ y1 ≤ 1048576) := ⟨hy1a, hy1b⟩
  clear hz hy1 hy1a hy1b HQ1
  go_wp2_with fail
  refine hC.mono ?_
  clear hC y0 y1' y2 y3
  rintro e wb ⟨rfl, belb⟩
  have HQ3 : Hid (OQ w wb _) := HQ2.out.later belb
  clear belb HQ2
  by_cases hz : ((s2.size + szL d t2 : Nat) : Int) ≤ y1
  case neg =>
    have hl : lft y1 (s2.size + szL d t2) = -1 := by unfold lft; rw [if_neg hz]
    rw [hl]
    clear hz hl
    go_wp2_with fail
    go_ret
    exact ⟨rfl, HQ3.out.b⟩
  obtain ⟨y, hy, hya⟩ : ∃ x : Int, lft y1 (s2.size + szL d t2) = x ∧ ¬ x < 0 := ⟨_, rfl, by unfold lft; rw [if_pos hz]; omega⟩
  rw [hy]
  have HZ2 : Hid (szL d t2 ≤ 1048576) := by show _ ≤ _; have := HY.out; omega
  clear hz hy
  have HTA : Hid (∀ V : World, Below w.heap.size w V → _) := fun V hV => toTerm_of d (toTermS_any d) k1 n1 s1 _ t1 V (HRA.out V hV) HFA.out.1 HZ1.out
  have HTB : Hid (∀ V : World, Below w.heap.size w V → _) := fun V hV => toTerm_of d (toTermS_any d) k2 n2 s2 _ t2 V (HRB.out V hV) HFA.out.2 HZ2.out
  clear HRA HRB HY HS2
  have HT0 : Hid (∀ V : World, Below w.heap.size w V → Calls Tryd.prog 7 #[.agg #[.int .i64 k1, .int .i64 n1, .string s1, .slice aa la ca]] V fun e w' => ∃ a l c, e = .returned (.agg #[.int .i64 k1, .int .i64 n1, .string s1, .slice a l c]) ∧ Hid (RdL d w' (.slice a l c) t1) ∧ Below V.heap.size V w') := fun V hV => (HTA.out V hV).mono fun e w' h => by
    obtain ⟨a, l, c, fp, rfl, o, _, hB⟩ := h
    exact ⟨a, l, c, rfl, o.rd, hB⟩
  have HT1 : Hid (∀ V : World, Below w.heap.size w V → Calls Tryd.prog 7 #[.agg #[.int .i64 k2, .int .i64 n2, .string s2, .slice ab lb cb]] V fun e w' => ∃ a l c, e = .returned (.agg #[.int .i64 k2, .int .i64 n2, .string s2, .slice a l c]) ∧ Hid (RdL d w' (.slice a l c) t2) ∧ Below V.heap.size V w') := fun V hV => (HTB.out V hV).mono fun e w' h => by
    obtain ⟨a, l, c, fp, rfl, o, _, hB⟩ := h
    exact ⟨a, l, c, rfl, o.rd, hB⟩
  obtain ⟨R, hR⟩ : ∃ R, opD a0 (mk k1 n1 s1 t1) (mk k2 n2 s2 t2) = R := ⟨_, rfl⟩
  have HSP : Hid (∀ (V : World) (a3 : Option Addr) (l3 c3 : Nat) (a4 : Option Addr) (l4 c4 : Nat), RdL d V (.slice a3 l3 c3) t1 → RdL d V (.slice a4 l4 c4) t2 → Calls Tryd.prog 6 #[.string a0, .agg #[.int .i64 k1, .int .i64 n1, .string s1, .slice a3 l3 c3], .agg #[.int .i64 k2, .int .i64 n2, .string s2, .slice a4 l4 c4]] V fun e w' => OpRes R V e w') := fun V a3 l3 c3 a4 l4 c4 h1 h2 => by
    rw [← hR]
    exact specOperate_any a0 k1 n1 s1 a3 l3 c3 t1 k2 n2 s2 a4 l4 c4 t2 V h1 h2 HFA.out.1 HFA.out.2 HSA.out.1 HSA.out.2
  obtain ⟨k, n, s, cc⟩ := R
  have HR0 : Hid (opD a0 (mk k1 n1 s1 t1) (mk k2 n2 s2 t2) = (k, n, s, cc)) := hR
  clear hR
  have HSK : Hid (∀ V : World, Below wb.heap.size wb V → (V.cell? ⟨w.heap.size, 0, none⟩ = some (.int .i64 k1) ∧ V.cell? ⟨w.heap.size, 1, none⟩ = some (.int .i64 n1) ∧ V.cell? ⟨w.heap.size, 2, none⟩ = some (.string s1) ∧ V.cell? ⟨w.heap.size, 3, none⟩ = some (.slice aa la ca)) ∧ (V.cell? ⟨w.heap.size + 1, 0, none⟩ = some (.int .i64 k2) ∧ V.cell? ⟨w.heap.size + 1, 1, none⟩ = some (.int .i64 n2) ∧ V.cell? ⟨w.heap.size + 1, 2, none⟩ = some (.string s2) ∧ V.cell? ⟨w.heap.size + 1, 3, none⟩ = some (.slice ab lb cb))) := fun V hV =>
    have h := HQ3.out.later hV
    ⟨h.four w.heap.size _ _ _ _ _ (by first | exact .head _ | exact .tail _ (.head _) | exact .tail _ (.tail _ (.head _)) | exact .tail _ (.tail _ (.tail _ (.head _))) | exact .tail _ (.tail _ (.tail _ (.tail _ (.head _)))) | exact .tail _ (.tail _ (.tail _ (.tail _ (.tail _ (.head _)))))| exact .tail _ (.tail _ (.tail _ (.tail _ (.tail _ (.tail _ (.head _))))))), h.four (w.heap.size + 1) _ _ _ _ _ (by first | exact .head _ | exact .tail _ (.head _) | exact .tail _ (.tail _ (.head _)) | exact .tail _ (.tail _ (.tail _ (.head _))) | exact .tail _ (.tail _ (.tail _ (.tail _ (.head _)))) | exact .tail _ (.tail _ (.tail _ (.tail _ (.tail _ (.head _)))))| exact .tail _ (.tail _ (.tail _ (.tail _ (.tail _ (.tail _ (.head _)))))))⟩
  have HXY : Hid (∀ V : World, Below wb.heap.size wb V → Below w.heap.size w V) := fun V hV => HQ3.out.b.trans (hV.mono HQ3.out.b.size)
  have hwl : w.heap.size + 1 < wb.heap.size := lt_row (HQ3.out.at_ (w.heap.size + 1, _) (by first | exact .head _ | exact .tail _ (.head _) | exact .tail _ (.tail _ (.head _)) | exact .tail _ (.tail _ (.tail _ (.head _))) | exact .tail _ (.tail _ (.tail _ (.tail _ (.head _)))) | exact .tail _ (.tail _ (.tail _ (.tail _ (.tail _ (.head _)))))| exact .tail _ (.tail _ (.tail _ (.tail _ (.tail _ (.tail _ (.head _)))))))).2
  have hwl0 : w.heap.size < wb.heap.size := by omega
  have hY : Below wb.heap.size wb wb.drew := (Below.refl _ _).drew
  go_wp2_with fail
  go_cut [8, 9] (fun v8 v9 wx => ∃ (b : Nat), v8 = .pointer (some ⟨b, 0, none⟩) ∧ v9 = .int .i64 cc ∧ Hid (OQ w wx [(b, .cells #[.int .i64 k, .int .i64 n, .string s, .slice none 0 0] 28), (w.heap.size + 1, .cells #[.int .i64 k2, .int .i64 n2, .string s2, .slice ab lb cb] 24), (w.heap.size, .cells #[.int .i64 k1, .int .i64 n1, .string s1, .slice aa la ca] 24)]))
  case first =>
    have hx0 := (HSK.out _ hY).1
    have hx1 := (HSK.out _ hY).2
    clear hx0 hx1
    go_region_held3 (fun V => (V.cell? ⟨w.heap.size, 0, none⟩ = some (.int .i64 k1) ∧ V.cell? ⟨w.heap.size, 1, none⟩ = some (.int .i64 n1) ∧ V.cell? ⟨w.heap.size, 2, none⟩ = some (.string s1) ∧ V.cell? ⟨w.heap.size, 3, none⟩ = some (.slice aa la ca)) ∧ (V.cell? ⟨w.heap.size + 1, 0, none⟩ = some (.int .i64 k2) ∧ V.cell? ⟨w.heap.size + 1, 1, none⟩ = some (.int .i64 n2) ∧ V.cell? ⟨w.heap.size + 1, 2, none⟩ = some (.string s2) ∧ V.cell? ⟨w.heap.size + 1, 3, none⟩ = some (.slice ab lb cb))) (first | exact HSK.out _ hY | exact HSK.out _ (hY.alloc hY.size _) | exact HSK.out _ (hY.alloc hY.size _).drew | exact HSK.out _ ((Below.refl wb.heap.size wb).alloc (Nat.le_refl _) _).drew | exact HSK.out _ ((Below.refl wb.heap.size wb).alloc (Nat.le_refl _) _) | exact HSK.out _ (Below.refl _ _) | exact HSK.out _ (below4 hY (Nat.le_refl _) _ _ _ _) | exact HSK.out _ (below4 hY hn0 _ _ _ _) | exact HSK.out _ (below4 hY hn1 _ _ _ _)) (first
      | (go_at_call 7; (with_reducible refine (HT0.out _ (HXY.out _ (by first | exact hY | exact (hY.alloc hY.size _) | exact (hY.alloc hY.size _).drew | exact ((Below.refl wb.heap.size wb).alloc (Nat.le_refl _) _).drew | exact ((Below.refl wb.heap.size wb).alloc (Nat.le_refl _) _)))).mono ?_); rintro e V0 ⟨i0, i1, i2, rfl, HE0, hB0⟩; (try (have hbx := (hB0.block _ (lt_row hbx)).trans hbx)); (try (have hbx := (hB0.block _ (by simp)).trans (heap_alloc_new _ _))); have hY : Below wb.heap.size wb V0 := (by first | exact hY.trans (hB0.mono hY.size) | exact (hY.alloc hY.size _).trans (hB0.mono (hY.alloc hY.size _).size) | exact (hY.alloc hY.size _).drew.trans (hB0.mono (hY.alloc hY.size _).drew.size) | exact ((Below.refl wb.heap.size wb).alloc (Nat.le_refl _) _).drew.trans (hB0.mono ((Below.refl wb.heap.size wb).alloc (Nat.le_refl _) _).drew.size) | exact ((Below.refl wb.heap.size wb).alloc (Nat.le_refl _) _).trans (hB0.mono ((Below.refl wb.heap.size wb).alloc (Nat.le_refl _) _).size)); have hn0 := hY.size)
      | (go_at_call 7; (with_reducible refine (HT1.out _ (HXY.out _ (by first | exact hY | exact (hY.alloc hY.size _) | exact (hY.alloc hY.size _).drew | exact ((Below.refl wb.heap.size wb).alloc (Nat.le_refl _) _).drew | exact ((Below.refl wb.heap.size wb).alloc (Nat.le_refl _) _)))).mono ?_); rintro e V1 ⟨j0, j1, j2, rfl, HE1, hB1⟩; (try (have hbx := (hB1.block _ (lt_row hbx)).trans hbx)); (try (have hbx := (hB1.block _ (by simp)).trans (heap_alloc_new _ _))); have hY : Below wb.heap.size wb V1 := (by first | exact hY.trans (hB1.mono hY.size) | exact (hY.alloc hY.size _).trans (hB1.mono (hY.alloc hY.size _).size) | exact (hY.alloc hY.size _).drew.trans (hB1.mono (hY.alloc hY.size _).drew.size) | exact ((Below.refl wb.heap.size wb).alloc (Nat.le_refl _) _).drew.trans (hB1.mono ((Below.refl wb.heap.size wb).alloc (Nat.le_refl _) _).drew.size) | exact ((Below.refl wb.heap.size wb).alloc (Nat.le_refl _) _).trans (hB1.mono ((Below.refl wb.heap.size wb).alloc (Nat.le_refl _) _).size)); have hn1 := hY.size)
      | (go_at_call 6; (with_reducible refine (HSP.out _ i0 i1 i2 j0 j1 j2 (by first | exact HE0.out.later hB1 | exact (HE0.out.later ((Below.refl _ _).alloc (Nat.le_refl _) _)).later hB1 | exact (HE0.out.later hB1).later ((Below.refl _ _).alloc (Nat.le_refl _) _)) (by first | exact HE1.out | exact HE1.out.later ((Below.refl _ _).alloc (Nat.le_refl _) _))).mono ?_); rintro e V2 ⟨rfl, hB2⟩; (try (have hbx := (hB2.block _ (lt_row hbx)).trans hbx)); (try (have hbx := (hB2.block _ (by simp)).trans (heap_alloc_new _ _))); have hY : Below wb.heap.size wb V2 := (by first | exact hY.trans (hB2.mono hY.size) | exact (hY.alloc hY.size _).trans (hB2.mono (hY.alloc hY.size _).size) | exact (hY.alloc hY.size _).drew.trans (hB2.mono (hY.alloc hY.size _).drew.size) | exact ((Below.refl wb.heap.size wb).alloc (Nat.le_refl _) _).drew.trans (hB2.mono ((Below.refl wb.heap.size wb).alloc (Nat.le_refl _) _).drew.size) | exact ((Below.refl wb.heap.size wb).alloc (Nat.le_refl _) _).trans (hB2.mono ((Below.refl wb.heap.size wb).alloc (Nat.le_refl _) _).size)); have hn2 := hY.size; (try (have hq4 := box4 hbx; obtain ⟨⟨b0, b1, b2, b3⟩, z0, z1, z2, z3⟩ := hq4))))
    all_goals
      first
        | (have HF : Hid (OQ w _ _) := HQ3.out.add' hY (.cells #[.int .i64 k, .int .i64 n, .string s, .slice none 0 0] 28)
           go_wp2_with fail
           go_meet
           case rel => exact ⟨_, rfl, rfl, HF⟩)
        | (have HF : Hid (OQ w _ _) := HQ3.out.put4 hY (by first | exact Nat.le_refl _ | exact hn0 | exact hn1) hbx (.int .i64 k) (.int .i64 n) (.string s) (.slice none 0 0)
           clear b0 b1 b2 b3 z0 z1 z2 z3 hbx
           go_wp2_with fail
           go_meet
           case rel => exact ⟨_, rfl, rfl, HF⟩)
  case rest =>
  obtain ⟨b8, hu8, hu9, HQc⟩ := hcut
  obtain ⟨V3, hV3⟩ : ∃ X, X = wc := ⟨_, rfl⟩
  rw [← hV3] at HQc ⊢
  rw [hu8, hu9]
  clear hV3 hu8 hu9 HSK HXY hwl hwl0 hY HQ3
  obtain ⟨x0, x1, x2, x3⟩ := HQc.out.four (w.heap.size) _ _ _ _ _ (by first | exact .head _ | exact .tail _ (.head _) | exact .tail _ (.tail _ (.head _)) | exact .tail _ (.tail _ (.tail _ (.head _))) | exact .tail _ (.tail _ (.tail _ (.tail _ (.head _)))) | exact .tail _ (.tail _ (.tail _ (.tail _ (.tail _ (.head _)))))| exact .tail _ (.tail _ (.tail _ (.tail _ (.tail _ (.tail _ (.head _)))))))
  clear HSP
  go_wp2_with fail
  refine (HTA.out V3 HQc.out.b).mono ?_
  clear x0 x1 x2 x3
  rintro e V4 ⟨p1, q1, r1, fp1, rfl, own1, fr1, bel4⟩
  obtain ⟨C1, hC1⟩ : ∃ X, X = V4.alloc (.cells #[.int .i64 k1, .int .i64 n1, .string s1, .slice p1 q1 r1] 28) := ⟨_, rfl⟩
  have HQ5 := (HQc.out.later bel4).add (.cells #[.int .i64 k1, .int .i64 n1, .string s1, .slice p1 q1 r1] 28)
  rw [← hC1] at HQ5
  have HQM : Hid (∀ (V5 C2 : World) (v2 : Value) (u2 : List (Tm d)) (f2 : List Nat) (x2 : Obj), OwnL d V5 v2 u2 f2 → Fresh C1.heap.size V5 f2 → Below C1.heap.size C1 V5 → C2 = V5.alloc x2 → OX d w C2 _ _ _ _ _ _ _) := fun V5 C2 v2 u2 f2 x2 o2 fr2 b5 hC2 => OX.make HQc.out own1 fr1 bel4 _ hC1 o2 fr2 b5 x2 hC2
  obtain ⟨y0, y1, y2, y3⟩ := HQ5.four (w.heap.size + 1) _ _ _ _ _ (by first | exact .head _ | exact .tail _ (.head _) | exact .tail _ (.tail _ (.head _)) | exact .tail _ (.tail _ (.tail _ (.head _))) | exact .tail _ (.tail _ (.tail _ (.tail _ (.head _)))) | exact .tail _ (.tail _ (.tail _ (.tail _ (.tail _ (.head _)))))| exact .tail _ (.tail _ (.tail _ (.tail _ (.tail _ (.tail _ (.head _)))))))
  have hl1 : w.heap.size + 1 < V4.heap.size := Nat.lt_of_lt_of_le (lt_row (HQc.out.at_ (w.heap.size + 1, _) (by first | exact .head _ | exact .tail _ (.head _) | exact .tail _ (.tail _ (.head _)) | exact .tail _ (.tail _ (.tail _ (.head _))) | exact .tail _ (.tail _ (.tail _ (.tail _ (.head _)))) | exact .tail _ (.tail _ (.tail _ (.tail _ (.tail _ (.head _)))))| exact .tail _ (.tail _ (.tail _ (.tail _ (.tail _ (.tail _ (.head _)))))))).2) bel4.size
  have hC := HTB.out C1 HQ5.b
  rw [hC1] at hC y0 y1 y2 y3
  have HC1 : Hid (C1 = _) := hC1
  clear own1 fr1 bel4 HQc HQ5 hC1
  go_wp2_with fail
  refine hC.mono ?_
  clear hC y0 y1 y2 y3
  rintro e V5 ⟨p2, q2, r2, fp2, rfl, own2, fr2, bel5⟩
  rw [← HC1.out] at fr2 bel5
  obtain ⟨C2, hC2⟩ : ∃ X, X = V5.alloc (.cells #[.int .i64 k2, .int .i64 n2, .string s2, .slice p2 q2 r2] 28) := ⟨_, rfl⟩
  have HX0 := HQM.out V5 C2 _ t2 _ _ own2 fr2 bel5 hC2
  have hl2 : V4.heap.size < V5.heap.size := Nat.lt_of_lt_of_le (by rw [HC1.out]; simp) bel5.size
  clear HQM own2 fr2 bel5 HC1
  obtain ⟨x0, x1, x2, x3⟩ := HX0.q.four (V4.heap.size) _ _ _ _ _ (by first | exact .head _ | exact .tail _ (.head _) | exact .tail _ (.tail _ (.head _)) | exact .tail _ (.tail _ (.tail _ (.head _))) | exact .tail _ (.tail _ (.tail _ (.tail _ (.head _)))) | exact .tail _ (.tail _ (.tail _ (.tail _ (.tail _ (.head _)))))| exact .tail _ (.tail _ (.tail _ (.tail _ (.tail _ (.tail _ (.head _)))))))
  obtain ⟨y0, y1, y2, y3⟩ := HX0.q.four (V5.heap.size) _ _ _ _ _ (by first | exact .head _ | exact .tail _ (.head _) | exact .tail _ (.tail _ (.head _)) | exact .tail _ (.tail _ (.tail _ (.head _))) | exact .tail _ (.tail _ (.tail _ (.tail _ (.head _)))) | exact .tail _ (.tail _ (.tail _ (.tail _ (.tail _ (.head _)))))| exact .tail _ (.tail _ (.tail _ (.tail _ (.tail _ (.tail _ (.head _)))))))
  have hC := implOperate_any a0 k1 n1 s1 p1 q1 r1 t1 k2 n2 s2 p2 q2 r2 t2 C2 HX0.o1.rd HX0.o2.rd HFA.out.1 HFA.out.2 HSA.out.1 HSA.out.2 (HE.out C2 HX0.q.b)
  rw [HR0.out] at hC
  rw [hC2] at hC x0 x1 x2 x3 y0 y1 y2 y3
  have HC2 : Hid (C2 = _) := hC2
  have HX1 : Hid (OX d w C2 _ _ _ _ _ _ _) := HX0
  clear HX0 hC2
  go_wp2_with fail
  refine hC.mono ?_
  clear hC x0 x1 x2 x3 y0 y1 y2 y3
  rintro e V6 ⟨a4, c4, rfl, bel6⟩
  rw [← HC2.out] at bel6
  have HX2 := HX1.out.later bel6
  obtain ⟨C3, hC3⟩ : ∃ X, X = V6.alloc (.cells #[.int .i64 k, .int .i64 n, .string s, .slice a4 0 c4] 28) := ⟨_, rfl⟩
  have HX3 := HX2.add (.cells #[.int .i64 k, .int .i64 n, .string s, .slice a4 0 c4] 28)
  rw [← hC3] at HX3
  have hl3 : V5.heap.size < V6.heap.size := Nat.lt_of_lt_of_le (by rw [HC2.out]; simp) bel6.size
  have hl8 : b8 < V6.heap.size := lt_row (HX2.q.at_ (b8, _) (by first | exact .head _ | exact .tail _ (.head _) | exact .tail _ (.tail _ (.head _)) | exact .tail _ (.tail _ (.tail _ (.head _))) | exact .tail _ (.tail _ (.tail _ (.tail _ (.head _)))) | exact .tail _ (.tail _ (.tail _ (.tail _ (.tail _ (.head _)))))| exact .tail _ (.tail _ (.tail _ (.tail _ (.tail _ (.tail _ (.head _)))))))).2
  obtain ⟨x0, x1, x2, x3⟩ := HX3.q.four (V6.heap.size) _ _ _ _ _ (by first | exact .head _ | exact .tail _ (.head _) | exact .tail _ (.tail _ (.head _)) | exact .tail _ (.tail _ (.tail _ (.head _))) | exact .tail _ (.tail _ (.tail _ (.tail _ (.head _)))) | exact .tail _ (.tail _ (.tail _ (.tail _ (.tail _ (.head _)))))| exact .tail _ (.tail _ (.tail _ (.tail _ (.tail _ (.tail _ (.head _)))))))
  obtain ⟨y0, y1, y2, y3⟩ := HX3.q.four (b8) _ _ _ _ _ (by first | exact .head _ | exact .tail _ (.head _) | exact .tail _ (.tail _ (.head _)) | exact .tail _ (.tail _ (.tail _ (.head _))) | exact .tail _ (.tail _ (.tail _ (.tail _ (.head _)))) | exact .tail _ (.tail _ (.tail _ (.tail _ (.tail _ (.head _)))))| exact .tail _ (.tail _ (.tail _ (.tail _ (.tail _ (.tail _ (.head _)))))))
  rw [hC3] at x0 x1 x2 x3 y0 y1 y2 y3
  have hC := eqTerm_leaf k n s a4 none c4 0 C3
  rw [hC3] at hC
  have HC3 : Hid (C3 = _) := hC3
  have HX4 : Hid (OX d w C3 _ _ _ _ _ _ _) := HX3
  clear HX1 HX2 HX3 hC3 bel6 HC2
  go_wp2_with fail
  refine hC.mono ?_
  clear hC x0 x1 x2 x3 y0 y1 y2 y3
  rintro e V7 ⟨rfl, bel7⟩
  rw [← HC3.out] at bel7
  have HX5 : Hid (OX d w V7 _ _ _ _ _ _ _) := HX4.out.later bel7
  clear HX4 bel7 HC3
  have HSK : Hid (∀ V : World, Below V7.heap.size V7 V → (V.cell? ⟨V4.heap.size, 0, none⟩ = some (.int .i64 k1) ∧ V.cell? ⟨V4.heap.size, 1, none⟩ = some (.int .i64 n1) ∧ V.cell? ⟨V4.heap.size, 2, none⟩ = some (.string s1) ∧ V.cell? ⟨V4.heap.size, 3, none⟩ = some (.slice p1 q1 r1)) ∧ (V.cell? ⟨w.heap.size, 0, none⟩ = some (.int .i64 k1) ∧ V.cell? ⟨w.heap.size, 1, none⟩ = some (.int .i64 n1) ∧ V.cell? ⟨w.heap.size, 2, none⟩ = some (.string s1) ∧ V.cell? ⟨w.heap.size, 3, none⟩ = some (.slice aa la ca))) := fun V hV =>
    have h := (HX5.out.later hV).q
    ⟨h.four (V4.heap.size) _ _ _ _ _ (by first | exact .head _ | exact .tail _ (.head _) | exact .tail _ (.tail _ (.head _)) | exact .tail _ (.tail _ (.tail _ (.head _))) | exact .tail _ (.tail _ (.tail _ (.tail _ (.head _)))) | exact .tail _ (.tail _ (.tail _ (.tail _ (.tail _ (.head _)))))| exact .tail _ (.tail _ (.tail _ (.tail _ (.tail _ (.tail _ (.head _))))))), h.four (w.heap.size) _ _ _ _ _ (by first | exact .head _ | exact .tail _ (.head _) | exact .tail _ (.tail _ (.head _)) | exact .tail _ (.tail _ (.tail _ (.head _))) | exact .tail _ (.tail _ (.tail _ (.tail _ (.head _)))) | exact .tail _ (.tail _ (.tail _ (.tail _ (.tail _ (.head _)))))| exact .tail _ (.tail _ (.tail _ (.tail _ (.tail _ (.tail _ (.head _)))))))⟩
  have HXY : Hid (∀ V : World, Below V7.heap.size V7 V → Below w.heap.size w V) := fun V hV => (HX5.out.later hV).q.b
  have HRX : Hid (∀ V : World, Below V7.heap.size V7 V → RdL d V (.slice p1 q1 r1) t1) := fun V hV => (HX5.out.later hV).o1.rd
  have hY : Below V7.heap.size V7 V7.drew := (Below.refl _ _).drew
  go_wp2_with fail
  go_region_held3 (fun V => (V.cell? ⟨V4.heap.size, 0, none⟩ = some (.int .i64 k1) ∧ V.cell? ⟨V4.heap.size, 1, none⟩ = some (.int .i64 n1) ∧ V.cell? ⟨V4.heap.size, 2, none⟩ = some (.string s1) ∧ V.cell? ⟨V4.heap.size, 3, none⟩ = some (.slice p1 q1 r1)) ∧ (V.cell? ⟨w.heap.size, 0, none⟩ = some (.int .i64 k1) ∧ V.cell? ⟨w.heap.size, 1, none⟩ = some (.int .i64 n1) ∧ V.cell? ⟨w.heap.size, 2, none⟩ = some (.string s1) ∧ V.cell? ⟨w.heap.size, 3, none⟩ = some (.slice aa la ca))) (first | exact HSK.out _ hY | exact HSK.out _ (Below.refl _ _)) (first
    | (go_at_call 7; (with_reducible refine (HT0.out _ (HXY.out _ hY)).mono ?_); rintro e V0 ⟨i0, i1, i2, rfl, HE0, hB0⟩; have hY : Below V7.heap.size V7 V0 := hY.trans (hB0.mono hY.size))
    | (go_at_call 9; (with_reducible refine (eqTerm_of d (eqTermS_any d) k1 n1 s1 _ _ t1 V0 (HRX.out V0 hY) HE0.out HFA.out.1).mono ?_); rintro e V1 ⟨rfl, hB1⟩; have hY : Below V7.heap.size V7 V1 := hY.trans (hB1.mono hY.size)))
  obtain ⟨V8, hV⟩ : ∃ X, X = V1 := ⟨_, rfl⟩
  rw [← hV] at hY ⊢
  have HX6 : Hid (OX d w V8 _ _ _ _ _ _ _) := HX5.out.later hY
  clear HSK HXY HRX HX5 hV hB0 hB1 HE0 hY
  have HSK : Hid (∀ V : World, Below V8.heap.size V8 V → (V.cell? ⟨V5.heap.size, 0, none⟩ = some (.int .i64 k2) ∧ V.cell? ⟨V5.heap.size, 1, none⟩ = some (.int .i64 n2) ∧ V.cell? ⟨V5.heap.size, 2, none⟩ = some (.string s2) ∧ V.cell? ⟨V5.heap.size, 3, none⟩ = some (.slice p2 q2 r2)) ∧ (V.cell? ⟨w.heap.size + 1, 0, none⟩ = some (.int .i64 k2) ∧ V.cell? ⟨w.heap.size + 1, 1, none⟩ = some (.int .i64 n2) ∧ V.cell? ⟨w.heap.size + 1, 2, none⟩ = some (.string s2) ∧ V.cell? ⟨w.heap.size + 1, 3, none⟩ = some (.slice ab lb cb))) := fun V hV =>
    have h := (HX6.out.later hV).q
    ⟨h.four (V5.heap.size) _ _ _ _ _ (by first | exact .head _ | exact .tail _ (.head _) | exact .tail _ (.tail _ (.head _)) | exact .tail _ (.tail _ (.tail _ (.head _))) | exact .tail _ (.tail _ (.tail _ (.tail _ (.head _)))) | exact .tail _ (.tail _ (.tail _ (.tail _ (.tail _ (.head _)))))| exact .tail _ (.tail _ (.tail _ (.tail _ (.tail _ (.tail _ (.head _))))))), h.four (w.heap.size + 1) _ _ _ _ _ (by first | exact .head _ | exact .tail _ (.head _) | exact .tail _ (.tail _ (.head _)) | exact .tail _ (.tail _ (.tail _ (.head _))) | exact .tail _ (.tail _ (.tail _ (.tail _ (.head _)))) | exact .tail _ (.tail _ (.tail _ (.tail _ (.tail _ (.head _)))))| exact .tail _ (.tail _ (.tail _ (.tail _ (.tail _ (.tail _ (.head _)))))))⟩
  have HXY : Hid (∀ V : World, Below V8.heap.size V8 V → Below w.heap.size w V) := fun V hV => (HX6.out.later hV).q.b
  have HRX : Hid (∀ V : World, Below V8.heap.size V8 V → RdL d V (.slice p2 q2 r2) t2) := fun V hV => (HX6.out.later hV).o2.rd
  have hY : Below V8.heap.size V8 V8.drew := (Below.refl _ _).drew
  go_wp2_with fail
  go_region_held3 (fun V => (V.cell? ⟨V5.heap.size, 0, none⟩ = some (.int .i64 k2) ∧ V.cell? ⟨V5.heap.size, 1, none⟩ = some (.int .i64 n2) ∧ V.cell? ⟨V5.heap.size, 2, none⟩ = some (.string s2) ∧ V.cell? ⟨V5.heap.size, 3, none⟩ = some (.slice p2 q2 r2)) ∧ (V.cell? ⟨w.heap.size + 1, 0, none⟩ = some (.int .i64 k2) ∧ V.cell? ⟨w.heap.size + 1, 1, none⟩ = some (.int .i64 n2) ∧ V.cell? ⟨w.heap.size + 1, 2, none⟩ = some (.string s2) ∧ V.cell? ⟨w.heap.size + 1, 3, none⟩ = some (.slice ab lb cb))) (first | exact HSK.out _ hY | exact HSK.out _ (Below.refl _ _)) (first
    | (go_at_call 7; (with_reducible refine (HT1.out _ (HXY.out _ hY)).mono ?_); rintro e V0 ⟨i0, i1, i2, rfl, HE0, hB0⟩; have hY : Below V8.heap.size V8 V0 := hY.trans (hB0.mono hY.size))
    | (go_at_call 9; (with_reducible refine (eqTerm_of d (eqTermS_any d) k2 n2 s2 _ _ t2 V0 (HRX.out V0 hY) HE0.out HFA.out.2).mono ?_); rintro e V1 ⟨rfl, hB1⟩; have hY : Below V8.heap.size V8 V1 := hY.trans (hB1.mono hY.size)))
  obtain ⟨V9, hV⟩ : ∃ X, X = V1 := ⟨_, rfl⟩
  rw [← hV] at hY ⊢
  have HX7 : Hid (OX d w V9 _ _ _ _ _ _ _) := HX6.out.later hY
  clear HSK HXY HRX HX6 hV hB0 hB1 HE0 hY
  obtain ⟨x0, x1, x2, x3⟩ := HX7.out.q.four (V4.heap.size) _ _ _ _ _ (by first | exact .head _ | exact .tail _ (.head _) | exact .tail _ (.tail _ (.head _)) | exact .tail _ (.tail _ (.tail _ (.head _))) | exact .tail _ (.tail _ (.tail _ (.tail _ (.head _)))) | exact .tail _ (.tail _ (.tail _ (.tail _ (.tail _ (.head _)))))| exact .tail _ (.tail _ (.tail _ (.tail _ (.tail _ (.tail _ (.head _)))))))
  have hM := markTerm_of d k1 n1 s1 p1 q1 r1 t1 fp1 1 V9 HX7.out.o1 HX7.out.n1 (by omega) (by have := cntL_szL d t1; have := HZ1.out; omega)
  obtain ⟨m1, hm1, hm1a, hm1b⟩ : ∃ x : Int, 1 + 3 * ((cntL d t1 : Nat) : Int) = x ∧ 0 ≤ x ∧ x ≤ 3145729 := ⟨_, rfl, by omega, by have := cntL_szL d t1; have := HZ1.out; omega⟩
  rw [hm1] at hM
  clear hm1
  go_wp2_with fail
  refine hM.mono ?_
  clear hM x0 x1 x2 x3
  rintro e V10 ⟨rfl, ow1, hW1⟩
  have HX8 : Hid (OX d w V10 _ _ _ _ _ _ _) := HX7.out.mark1 hW1 ow1
  clear HX7 ow1 hW1
  obtain ⟨y0, y1, y2, y3⟩ := HX8.out.q.four (V5.heap.size) _ _ _ _ _ (by first | exact .head _ | exact .tail _ (.head _) | exact .tail _ (.tail _ (.head _)) | exact .tail _ (.tail _ (.tail _ (.head _))) | exact .tail _ (.tail _ (.tail _ (.tail _ (.head _)))) | exact .tail _ (.tail _ (.tail _ (.tail _ (.tail _ (.head _)))))| exact .tail _ (.tail _ (.tail _ (.tail _ (.tail _ (.tail _ (.head _)))))))
  have hM := markTerm_of d k2 n2 s2 p2 q2 r2 t2 fp2 m1 V10 HX8.out.o2 HX8.out.n2 hm1a (by have := cntL_szL d t2; have := HZ2.out; omega)
  obtain ⟨m2, hm2, hm2a⟩ : ∃ x : Int, m1 + 3 * ((cntL d t2 : Nat) : Int) = x ∧ ¬ x < 0 := ⟨_, rfl, by omega⟩
  rw [hm2] at hM
  clear hm2 hm1a hm1b
  go_wp2_with fail
  refine hM.mono ?_
  clear hM y0 y1 y2 y3
  rintro e V11 ⟨rfl, ow2, hW2⟩
  have HQ9 : Hid (OQ w V11 _) := (HX8.out.mark2 hW2).few (bs' := [(V6.heap.size, .cells #[.int .i64 k, .int .i64 n, .string s, .slice a4 0 c4] 28), (b8, .cells #[.int .i64 k, .int .i64 n, .string s, .slice none 0 0] 28), (w.heap.size + 1, .cells #[.int .i64 k2, .int .i64 n2, .string s2, .slice ab lb cb] 24), (w.heap.size, .cells #[.int .i64 k1, .int .i64 n1, .string s1, .slice aa la ca] 24)]) (fun x hx => by
    rcases List.mem_cons.1 hx with rfl | hx
    · exact .head _
    · exact .tail _ (.tail _ (.tail _ hx)))
  clear HX8 ow2 hW2
  obtain ⟨x0, x1, x2, x3⟩ := HQ9.out.four (V6.heap.size) _ _ _ _ _ (by first | exact .head _ | exact .tail _ (.head _) | exact .tail _ (.tail _ (.head _)) | exact .tail _ (.tail _ (.tail _ (.head _))) | exact .tail _ (.tail _ (.tail _ (.tail _ (.head _)))) | exact .tail _ (.tail _ (.tail _ (.tail _ (.tail _ (.head _)))))| exact .tail _ (.tail _ (.tail _ (.tail _ (.tail _ (.tail _ (.head _)))))))
  obtain ⟨y0, y1, y2, y3⟩ := HQ9.out.four (b8) _ _ _ _ _ (by first | exact .head _ | exact .tail _ (.head _) | exact .tail _ (.tail _ (.head _)) | exact .tail _ (.tail _ (.tail _ (.head _))) | exact .tail _ (.tail _ (.tail _ (.tail _ (.head _)))) | exact .tail _ (.tail _ (.tail _ (.tail _ (.tail _ (.head _)))))| exact .tail _ (.tail _ (.tail _ (.tail _ (.tail _ (.tail _ (.head _)))))))
  go_wp2_with fail
  refine (eqTerm_leaf k n s a4 none c4 0 V11).mono ?_
  clear x0 x1 x2 x3 y0 y1 y2 y3
  rintro e V12 ⟨rfl, bel⟩
  have HQ10 : Hid (OQ w V12 _) := HQ9.out.later bel
  clear HQ9 bel
  obtain ⟨x0, x1, x2, x3⟩ := HQ10.out.four (V6.heap.size) _ _ _ _ _ (by first | exact .head _ | exact .tail _ (.head _) | exact .tail _ (.tail _ (.head _)) | exact .tail _ (.tail _ (.tail _ (.head _))) | exact .tail _ (.tail _ (.tail _ (.tail _ (.head _)))) | exact .tail _ (.tail _ (.tail _ (.tail _ (.tail _ (.head _)))))| exact .tail _ (.tail _ (.tail _ (.tail _ (.tail _ (.tail _ (.head _)))))))
  go_wp2_with fail
  refine (markTerm_leaf k n s a4 c4 V12).mono ?_
  clear x0 x1 x2 x3
  rintro e V13 ⟨rfl, hW⟩
  have HQ11 : Hid (OQ w V13 _) := HQ10.out.none hW
  clear HQ10 hW
  obtain ⟨x0, x1, x2, x3⟩ := HQ11.out.four (V6.heap.size) _ _ _ _ _ (by first | exact .head _ | exact .tail _ (.head _) | exact .tail _ (.tail _ (.head _)) | exact .tail _ (.tail _ (.tail _ (.head _))) | exact .tail _ (.tail _ (.tail _ (.tail _ (.head _)))) | exact .tail _ (.tail _ (.tail _ (.tail _ (.tail _ (.head _)))))| exact .tail _ (.tail _ (.tail _ (.tail _ (.tail _ (.tail _ (.head _)))))))
  go_wp2_with fail
  refine (heldTerm_leaf k n s a4 c4 V13).mono ?_
  clear x0 x1 x2 x3
  rintro e V14 ⟨rfl, bel⟩
  have HQ12 : Hid (OQ w V14 _) := HQ11.out.later bel
  clear HQ11 bel
  have HIM : Hid (∀ (V : World) (a3 : Option Addr) (l3 c3 : Nat) (a4 : Option Addr) (l4 c4 : Nat), RdL d V (.slice a3 l3 c3) t1 → RdL d V (.slice a4 l4 c4) t2 → Below w.heap.size w V → Calls Tryd.prog 8 #[.string a0, .agg #[.int .i64 k1, .int .i64 n1, .string s1, .slice a3 l3 c3], .agg #[.int .i64 k2, .int .i64 n2, .string s2, .slice a4 l4 c4]] V fun e w' => OqRes (k, n, s, cc) V e w') := fun V a3 l3 c3 a4 l4 c4 h1 h2 hb => by
    rw [← HR0.out]
    exact implOperate_any a0 k1 n1 s1 a3 l3 c3 t1 k2 n2 s2 a4 l4 c4 t2 V h1 h2 HFA.out.1 HFA.out.2 HSA.out.1 HSA.out.2 (HE.out V hb)
  have HSK : Hid (∀ V : World, Below V14.heap.size V14 V → (V.cell? ⟨w.heap.size, 0, none⟩ = some (.int .i64 k1) ∧ V.cell? ⟨w.heap.size, 1, none⟩ = some (.int .i64 n1) ∧ V.cell? ⟨w.heap.size, 2, none⟩ = some (.string s1) ∧ V.cell? ⟨w.heap.size, 3, none⟩ = some (.slice aa la ca)) ∧ (V.cell? ⟨w.heap.size + 1, 0, none⟩ = some (.int .i64 k2) ∧ V.cell? ⟨w.heap.size + 1, 1, none⟩ = some (.int .i64 n2) ∧ V.cell? ⟨w.heap.size + 1, 2, none⟩ = some (.string s2) ∧ V.cell? ⟨w.heap.size + 1, 3, none⟩ = some (.slice ab lb cb))) := fun V hV =>
    have h := HQ12.out.later hV
    ⟨h.four w.heap.size _ _ _ _ _ (by first | exact .head _ | exact .tail _ (.head _) | exact .tail _ (.tail _ (.head _)) | exact .tail _ (.tail _ (.tail _ (.head _))) | exact .tail _ (.tail _ (.tail _ (.tail _ (.head _)))) | exact .tail _ (.tail _ (.tail _ (.tail _ (.tail _ (.head _)))))| exact .tail _ (.tail _ (.tail _ (.tail _ (.tail _ (.tail _ (.head _))))))), h.four (w.heap.size + 1) _ _ _ _ _ (by first | exact .head _ | exact .tail _ (.head _) | exact .tail _ (.tail _ (.head _)) | exact .tail _ (.tail _ (.tail _ (.head _))) | exact .tail _ (.tail _ (.tail _ (.tail _ (.head _)))) | exact .tail _ (.tail _ (.tail _ (.tail _ (.tail _ (.head _)))))| exact .tail _ (.tail _ (.tail _ (.tail _ (.tail _ (.tail _ (.head _)))))))⟩
  have HXY : Hid (∀ V : World, Below V14.heap.size V14 V → Below w.heap.size w V) := fun V hV => HQ12.out.b.trans (hV.mono HQ12.out.b.size)
  have hwl : w.heap.size + 1 < V14.heap.size := lt_row (HQ12.out.at_ (w.heap.size + 1, _) (by first | exact .head _ | exact .tail _ (.head _) | exact .tail _ (.tail _ (.head _)) | exact .tail _ (.tail _ (.tail _ (.head _))) | exact .tail _ (.tail _ (.tail _ (.tail _ (.head _)))) | exact .tail _ (.tail _ (.tail _ (.tail _ (.tail _ (.head _)))))| exact .tail _ (.tail _ (.tail _ (.tail _ (.tail _ (.tail _ (.head _)))))))).2
  have hwl0 : w.heap.size < V14.heap.size := by omega
  have hY : Below V14.heap.size V14 V14.drew := (Below.refl _ _).drew
  go_wp2_with fail
  go_cut [17, 18] (fun v8 v9 wx => ∃ (b : Nat) (a5 : Option Addr) (c5 : Nat), v8 = .pointer (some ⟨b, 0, none⟩) ∧ v9 = .int .i64 cc ∧ Hid (OQ w wx [(b, .cells #[.int .i64 k, .int .i64 n, .string s, .slice a5 0 c5] 28), (V6.heap.size, .cells #[.int .i64 k, .int .i64 n, .string s, .slice a4 0 c4] 28), (b8, .cells #[.int .i64 k, .int .i64 n, .string s, .slice none 0 0] 28), (w.heap.size + 1, .cells #[.int .i64 k2, .int .i64 n2, .string s2, .slice ab lb cb] 24), (w.heap.size, .cells #[.int .i64 k1, .int .i64 n1, .string s1, .slice aa la ca] 24)]))
  case first =>
    have hx0 := (HSK.out _ hY).1
    have hx1 := (HSK.out _ hY).2
    clear hx0 hx1
    go_region_held3 (fun V => (V.cell? ⟨w.heap.size, 0, none⟩ = some (.int .i64 k1) ∧ V.cell? ⟨w.heap.size, 1, none⟩ = some (.int .i64 n1) ∧ V.cell? ⟨w.heap.size, 2, none⟩ = some (.string s1) ∧ V.cell? ⟨w.heap.size, 3, none⟩ = some (.slice aa la ca)) ∧ (V.cell? ⟨w.heap.size + 1, 0, none⟩ = some (.int .i64 k2) ∧ V.cell? ⟨w.heap.size + 1, 1, none⟩ = some (.int .i64 n2) ∧ V.cell? ⟨w.heap.size + 1, 2, none⟩ = some (.string s2) ∧ V.cell? ⟨w.heap.size + 1, 3, none⟩ = some (.slice ab lb cb))) (first | exact HSK.out _ hY | exact HSK.out _ (hY.alloc hY.size _) | exact HSK.out _ (hY.alloc hY.size _).drew | exact HSK.out _ ((Below.refl V14.heap.size V14).alloc (Nat.le_refl _) _).drew | exact HSK.out _ ((Below.refl V14.heap.size V14).alloc (Nat.le_refl _) _) | exact HSK.out _ (Below.refl _ _) | exact HSK.out _ (below4 hY (Nat.le_refl _) _ _ _ _) | exact HSK.out _ (below4 hY hn0 _ _ _ _) | exact HSK.out _ (below4 hY hn1 _ _ _ _)) (first
      | (go_at_call 7; (with_reducible refine (HT0.out _ (HXY.out _ (by first | exact hY | exact (hY.alloc hY.size _) | exact (hY.alloc hY.size _).drew | exact ((Below.refl V14.heap.size V14).alloc (Nat.le_refl _) _).drew | exact ((Below.refl V14.heap.size V14).alloc (Nat.le_refl _) _)))).mono ?_); rintro e V0 ⟨i0, i1, i2, rfl, HE0, hB0⟩; (try (have hbx := (hB0.block _ (lt_row hbx)).trans hbx)); (try (have hbx := (hB0.block _ (by simp)).trans (heap_alloc_new _ _))); have hY : Below V14.heap.size V14 V0 := (by first | exact hY.trans (hB0.mono hY.size) | exact (hY.alloc hY.size _).trans (hB0.mono (hY.alloc hY.size _).size) | exact (hY.alloc hY.size _).drew.trans (hB0.mono (hY.alloc hY.size _).drew.size) | exact ((Below.refl V14.heap.size V14).alloc (Nat.le_refl _) _).drew.trans (hB0.mono ((Below.refl V14.heap.size V14).alloc (Nat.le_refl _) _).drew.size) | exact ((Below.refl V14.heap.size V14).alloc (Nat.le_refl _) _).trans (hB0.mono ((Below.refl V14.heap.size V14).alloc (Nat.le_refl _) _).size)); have hn0 := hY.size)
      | (go_at_call 7; (with_reducible refine (HT1.out _ (HXY.out _ (by first | exact hY | exact (hY.alloc hY.size _) | exact (hY.alloc hY.size _).drew | exact ((Below.refl V14.heap.size V14).alloc (Nat.le_refl _) _).drew | exact ((Below.refl V14.heap.size V14).alloc (Nat.le_refl _) _)))).mono ?_); rintro e V1 ⟨j0, j1, j2, rfl, HE1, hB1⟩; (try (have hbx := (hB1.block _ (lt_row hbx)).trans hbx)); (try (have hbx := (hB1.block _ (by simp)).trans (heap_alloc_new _ _))); have hY : Below V14.heap.size V14 V1 := (by first | exact hY.trans (hB1.mono hY.size) | exact (hY.alloc hY.size _).trans (hB1.mono (hY.alloc hY.size _).size) | exact (hY.alloc hY.size _).drew.trans (hB1.mono (hY.alloc hY.size _).drew.size) | exact ((Below.refl V14.heap.size V14).alloc (Nat.le_refl _) _).drew.trans (hB1.mono ((Below.refl V14.heap.size V14).alloc (Nat.le_refl _) _).drew.size) | exact ((Below.refl V14.heap.size V14).alloc (Nat.le_refl _) _).trans (hB1.mono ((Below.refl V14.heap.size V14).alloc (Nat.le_refl _) _).size)); have hn1 := hY.size)
      | (go_at_call 8; (with_reducible refine (HIM.out _ i0 i1 i2 j0 j1 j2 (by first | exact HE0.out.later hB1 | exact (HE0.out.later ((Below.refl _ _).alloc (Nat.le_refl _) _)).later hB1 | exact (HE0.out.later hB1).later ((Below.refl _ _).alloc (Nat.le_refl _) _)) (by first | exact HE1.out | exact HE1.out.later ((Below.refl _ _).alloc (Nat.le_refl _) _)) (HXY.out _ (by first | exact hY | exact (hY.alloc hY.size _) | exact (hY.alloc hY.size _).drew | exact ((Below.refl V14.heap.size V14).alloc (Nat.le_refl _) _).drew | exact ((Below.refl V14.heap.size V14).alloc (Nat.le_refl _) _)))).mono ?_); rintro e V2 ⟨a5, c5, rfl, hB2⟩; (try (have hbx := (hB2.block _ (lt_row hbx)).trans hbx)); (try (have hbx := (hB2.block _ (by simp)).trans (heap_alloc_new _ _))); have hY : Below V14.heap.size V14 V2 := (by first | exact hY.trans (hB2.mono hY.size) | exact (hY.alloc hY.size _).trans (hB2.mono (hY.alloc hY.size _).size) | exact (hY.alloc hY.size _).drew.trans (hB2.mono (hY.alloc hY.size _).drew.size) | exact ((Below.refl V14.heap.size V14).alloc (Nat.le_refl _) _).drew.trans (hB2.mono ((Below.refl V14.heap.size V14).alloc (Nat.le_refl _) _).drew.size) | exact ((Below.refl V14.heap.size V14).alloc (Nat.le_refl _) _).trans (hB2.mono ((Below.refl V14.heap.size V14).alloc (Nat.le_refl _) _).size)); have hn2 := hY.size; (try (have hq4 := box4 hbx; obtain ⟨⟨b0, b1, b2, b3⟩, z0, z1, z2, z3⟩ := hq4))))
    all_goals
      first
        | (have HF : Hid (OQ w _ _) := HQ12.out.add' hY (.cells #[.int .i64 k, .int .i64 n, .string s, .slice a5 0 c5] 28)
           go_wp2_with fail
           go_meet
           case rel => exact ⟨_, a5, c5, rfl, rfl, HF⟩)
        | (have HF : Hid (OQ w _ _) := HQ12.out.put4 hY (by first | exact Nat.le_refl _ | exact hn0 | exact hn1) hbx (.int .i64 k) (.int .i64 n) (.string s) (.slice a5 0 c5)
           clear b0 b1 b2 b3 z0 z1 z2 z3 hbx
           go_wp2_with fail
           go_meet
           case rel => exact ⟨_, a5, c5, rfl, rfl, HF⟩)
  case rest =>
  obtain ⟨b17, a5, c5, hu8, hu9, HQc⟩ := hcut
  obtain ⟨V15, hV3⟩ : ∃ X, X = wc := ⟨_, rfl⟩
  rw [← hV3] at HQc ⊢
  rw [hu8, hu9]
  clear hV3 hu8 hu9 HSK HXY hwl hwl0 hY HQ12
  obtain ⟨x0, x1, x2, x3⟩ := HQc.out.four (b17) _ _ _ _ _ (by first | exact .head _ | exact .tail _ (.head _) | exact .tail _ (.tail _ (.head _)) | exact .tail _ (.tail _ (.tail _ (.head _))) | exact .tail _ (.tail _ (.tail _ (.tail _ (.head _)))) | exact .tail _ (.tail _ (.tail _ (.tail _ (.tail _ (.head _)))))| exact .tail _ (.tail _ (.tail _ (.tail _ (.tail _ (.tail _ (.head _)))))))
  obtain ⟨y0, y1, y2, y3⟩ := HQc.out.four (b8) _ _ _ _ _ (by first | exact .head _ | exact .tail _ (.head _) | exact .tail _ (.tail _ (.head _)) | exact .tail _ (.tail _ (.tail _ (.head _))) | exact .tail _ (.tail _ (.tail _ (.tail _ (.head _)))) | exact .tail _ (.tail _ (.tail _ (.tail _ (.tail _ (.head _)))))| exact .tail _ (.tail _ (.tail _ (.tail _ (.tail _ (.tail _ (.head _)))))))
  go_wp2_with fail
  refine (eqTerm_leaf k n s a5 none c5 0 V15).mono ?_
  clear x0 x1 x2 x3 y0 y1 y2 y3
  rintro e V16 ⟨rfl, bel⟩
  have HQ13 : Hid (OQ w V16 _) := HQc.out.later bel
  clear HQc bel
  obtain ⟨x0, x1, x2, x3⟩ := HQ13.out.four (V6.heap.size) _ _ _ _ _ (by first | exact .head _ | exact .tail _ (.head _) | exact .tail _ (.tail _ (.head _)) | exact .tail _ (.tail _ (.tail _ (.head _))) | exact .tail _ (.tail _ (.tail _ (.tail _ (.head _)))) | exact .tail _ (.tail _ (.tail _ (.tail _ (.tail _ (.head _)))))| exact .tail _ (.tail _ (.tail _ (.tail _ (.tail _ (.tail _ (.head _)))))))
  go_wp2_with fail
  refine (heldTerm_leaf k n s a4 c4 V16).mono ?_
  clear x0 x1 x2 x3
  rintro e V17 ⟨rfl, bel⟩
  have HQ14 : Hid (OQ w V17 _) := HQ13.out.later bel
  clear HQ13 bel
  go_wp2_with fail
  go_ret
  exact ⟨rfl, HQ14.out.b⟩

end Go.Proofs.YtfegiccjfepnnaaDoor
