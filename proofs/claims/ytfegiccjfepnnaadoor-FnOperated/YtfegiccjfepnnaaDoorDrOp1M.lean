/- The draw of an operation and its two terms: what it keeps. -/
import Derived.Test.YtfegiccjfepnnaaDoorBd2M
import Derived.Test.YtfegiccjfepnnaaDoorOpSM
import Derived.Deep.RegionHeld3
namespace Go.Proofs.YtfegiccjfepnnaaDoor
open Go.RowKit
set_option linter.unusedVariables false

/-- A term of the draw's own, apart from its boxes. -/
def AnyN (V : World) (lo : Nat) (bs : List (Nat × Obj)) (t : Int × Int × ByteArray × Value) : Prop :=
  ∃ (d : Nat) (ts : List (Tm d)) (fp : List Nat), OwnL d V t.2.2.2 ts fp ∧ (∀ g ∈ fp, lo ≤ g ∧ ∀ x ∈ bs, x.1 ≠ g) ∧ WfL d ts ∧ I64 t.1 ∧ I64 t.2.1 ∧ t.2.2.1.size ≤ 100 ∧ cntL d ts ≤ 200
/-- How the draw stands. -/
structure DOp (w V : World) (a : Option Addr) (len cap : Nat) (bs : List (Nat × Obj)) (tt : List (Int × Int × ByteArray × Value)) : Prop where
  cur : Cur V (w.heap.size + 2) a len cap
  b : Below w.heap.size w V
  at_ : ∀ x ∈ bs, w.heap.size ≤ x.1 ∧ x.1 ≠ w.heap.size + 2 ∧ V.heap[x.1]? = some x.2
  any : ∀ t ∈ tt, AnyN V (w.heap.size + 3) bs t
variable {w V V' : World} {a : Option Addr} {len cap : Nat} {bs : List (Nat × Obj)} {tt : List (Int × Int × ByteArray × Value)}
theorem AnyN.kept {lo : Nat} {t : Int × Int × ByteArray × Value} (h : AnyN V lo bs t) (hb : ∀ g, g < V.heap.size → lo ≤ g → (∀ x ∈ bs, x.1 ≠ g) → V'.heap[g]? = V.heap[g]?) : AnyN V' lo bs t := by
  obtain ⟨d, ts, fp, o, hf, r⟩ := h
  exact ⟨d, ts, fp, o.frame fun g hg => hb g (o.lt g hg) (hf g hg).1 (hf g hg).2, hf, r⟩
theorem AnyN.box {lo : Nat} {t : Int × Int × ByteArray × Value} {o : Obj} (h : AnyN V lo bs t) : AnyN V lo ((V.heap.size, o) :: bs) t := by
  obtain ⟨d, ts, fp, ow, hf, r⟩ := h
  refine ⟨d, ts, fp, ow, fun g hg => ⟨(hf g hg).1, fun x hx => ?_⟩, r⟩
  rcases List.mem_cons.1 hx with rfl | hx
  · have := ow.lt g hg; show V.heap.size ≠ g; omega
  · exact (hf g hg).2 x hx
theorem DOp.lt (h : DOp w V a len cap bs tt) : ∀ x ∈ bs, x.1 < V.heap.size := fun x hx => lt_row (h.at_ x hx).2.2
theorem DOp.grown (h : DOp w V a len cap bs tt) (hg : V.grownBy V' (some (w.heap.size + 2))) (hc : Cur V' (w.heap.size + 2) a len cap) : DOp w V' a len cap bs tt :=
  ⟨hc, h.b.trans (grown_below hg (by omega) h.b.size), fun x hx => ⟨(h.at_ x hx).1, (h.at_ x hx).2.1, (hg.block _ (h.lt x hx) (by have := (h.at_ x hx).2.1; simp; omega)).trans (h.at_ x hx).2.2⟩,
   fun t ht => (h.any t ht).kept fun g h1 h2 _ => hg.block g h1 (by simp; omega)⟩
theorem DOp.add (h : DOp w V a len cap bs tt) (o : Obj) : DOp w (V.alloc o) a len cap ((V.heap.size, o) :: bs) tt := by
  have hB : Below V.heap.size V (V.alloc o) := (Below.refl _ _).alloc (Nat.le_refl _) o
  have hp := h.cur.lt
  refine ⟨h.cur.same (hB.block _ hp), h.b.alloc h.b.size _, fun x hx => ?_, fun t ht => ?_⟩
  · rcases List.mem_cons.1 hx with rfl | hx
    · exact ⟨h.b.size, by show V.heap.size ≠ _; omega, heap_alloc_new V o⟩
    · exact ⟨(h.at_ x hx).1, (h.at_ x hx).2.1, (hB.block _ (h.lt x hx)).trans (h.at_ x hx).2.2⟩
  · obtain ⟨d, ts, fp, ow, hf, r⟩ := (h.any t ht).box (o := o)
    exact ⟨d, ts, fp, ow.frame fun g hg => hB.block g (ow.lt g hg), hf, r⟩
theorem DOp.drawn (h : DOp w V a len cap bs tt) {k n : Int} {s : ByteArray} {v : Value} (hP : BPost (w.heap.size + 2) a len cap V V' k n s v) : DOp w V' a len cap bs ((k, n, s, v) :: tt) := by
  obtain ⟨hA, hc, hg⟩ := hP
  have hn := h.grown hg hc
  refine ⟨hc, hn.b, hn.at_, fun t ht => ?_⟩
  rcases List.mem_cons.1 ht with rfl | ht
  · obtain ⟨d, ts, fp, ow, hf, r⟩ := hA
    have hp := h.cur.lt
    exact ⟨d, ts, fp, ow, fun g hg => ⟨by have := (hf g hg).1; omega, fun x hx => by have := h.lt x hx; have := (hf g hg).1; omega⟩, r⟩
  · exact hn.any t ht
theorem DOp.leaf (h : DOp w V a len cap bs tt) (k n : Int) (hk : I64 k) (hn : I64 n) (l : Option Addr) (c : Nat) : DOp w V a len cap bs ((k, n, ⟨#[]⟩, .slice l 0 c) :: tt) :=
  ⟨h.cur, h.b, h.at_, fun t ht => by
    rcases List.mem_cons.1 ht with rfl | ht
    · exact ⟨0, [], [], ⟨⟨l, c, rfl⟩, rfl⟩, fun g hg => absurd hg List.not_mem_nil, trivial, hk, hn, Nat.zero_le _, Nat.zero_le _⟩
    · exact h.any t ht⟩
theorem DOp.fewT {tt' : List (Int × Int × ByteArray × Value)} (h : DOp w V a len cap bs tt) (hs : ∀ x ∈ tt', x ∈ tt) : DOp w V a len cap bs tt' := ⟨h.cur, h.b, h.at_, fun t ht => h.any t (hs t ht)⟩
theorem DOp.fewB {bs' : List (Nat × Obj)} (h : DOp w V a len cap bs tt) (hs : ∀ x ∈ bs', x ∈ bs) : DOp w V a len cap bs' tt :=
  ⟨h.cur, h.b, fun x hx => h.at_ x (hs x hx), fun t ht => by
    obtain ⟨d, ts, fp, ow, hf, r⟩ := h.any t ht
    exact ⟨d, ts, fp, ow, fun g hg => ⟨(hf g hg).1, fun x hx => (hf g hg).2 x (hs x hx)⟩, r⟩⟩
/-- One of its boxes is written anew. -/
theorem DOp.put {g : Nat} {c0 c1 c2 c3 x0 x1 x2 x3 : Value} {t : TypeId} {bs1 bs2 : List (Nat × Obj)} (h : DOp w V a len cap (bs1 ++ (g, .cells #[c0, c1, c2, c3] t) :: bs2) tt) (hne : ∀ x ∈ bs1 ++ bs2, x.1 ≠ g) :
    DOp w ((((V.setCell ⟨g, 0, none⟩ x0).setCell ⟨g, 1, none⟩ x1).setCell ⟨g, 2, none⟩ x2).setCell ⟨g, 3, none⟩ x3) a len cap (bs1 ++ (g, .cells #[x0, x1, x2, x3] t) :: bs2) tt := by
  have hin : (g, Obj.cells #[c0, c1, c2, c3] t (0, 0)) ∈ bs1 ++ (g, .cells #[c0, c1, c2, c3] t) :: bs2 := List.mem_append_right _ (.head _)
  have hg := h.at_ _ hin
  have hoth : ∀ i, i ≠ g → ((((V.setCell ⟨g, 0, none⟩ x0).setCell ⟨g, 1, none⟩ x1).setCell ⟨g, 2, none⟩ x2).setCell ⟨g, 3, none⟩ x3).heap[i]? = V.heap[i]? := fun i hi =>
    (heap_setCell_other _ _ _ _ hi).trans ((heap_setCell_other _ _ _ _ hi).trans ((heap_setCell_other _ _ _ _ hi).trans (heap_setCell_other _ _ _ _ hi)))
  refine ⟨h.cur.same (hoth _ fun e => hg.2.1 e.symm), below4 h.b hg.1 _ _ _ _, fun x hx => ?_, fun q hq => ?_⟩
  · rcases List.mem_append.1 hx with hx' | hx'
    · have := h.at_ x (List.mem_append_left _ hx')
      exact ⟨this.1, this.2.1, (hoth _ (hne x (List.mem_append_left _ hx'))).trans this.2.2⟩
    · rcases List.mem_cons.1 hx' with rfl | hx'
      · exact ⟨hg.1, hg.2.1, boxPut4 hg.2.2 _ _ _ _⟩
      · have := h.at_ x (List.mem_append_right _ (.tail _ hx'))
        exact ⟨this.1, this.2.1, (hoth _ (hne x (List.mem_append_right _ hx'))).trans this.2.2⟩
  · obtain ⟨d, ts, fp, ow, hf, r⟩ := h.any q hq
    refine ⟨d, ts, fp, ow.frame fun i hi => hoth i fun e => (hf i hi).2 _ hin e.symm, fun i hi => ⟨(hf i hi).1, fun x hx => ?_⟩, r⟩
    rcases List.mem_append.1 hx with hx' | hx'
    · exact (hf i hi).2 x (List.mem_append_left _ hx')
    · rcases List.mem_cons.1 hx' with rfl | hx'
      · exact (show g ≠ i from (hf i hi).2 (g, .cells #[c0, c1, c2, c3] t) hin)
      · exact (hf i hi).2 x (List.mem_append_right _ (.tail _ hx'))
theorem DOp.four (h : DOp w V a len cap bs tt) (g : Nat) (c0 c1 c2 c3 : Value) (t : TypeId) (hx : (g, Obj.cells #[c0, c1, c2, c3] t (0, 0)) ∈ bs) :
    (V.cell? ⟨g, 0, none⟩ = some c0 ∧ V.cell? ⟨g, 1, none⟩ = some c1 ∧ V.cell? ⟨g, 2, none⟩ = some c2 ∧ V.cell? ⟨g, 3, none⟩ = some c3) ∧ V.frozen? ⟨g, 0, none⟩ = false ∧ V.frozen? ⟨g, 1, none⟩ = false ∧ V.frozen? ⟨g, 2, none⟩ = false ∧ V.frozen? ⟨g, 3, none⟩ = false := box4 (h.at_ _ hx).2.2
theorem DOp.out (h : DOp w V a len cap bs tt) {k n : Int} {s : ByteArray} {v : Value} (ht : (k, n, s, v) ∈ tt) : AnyT V w.heap.size k n s v 200 := by
  obtain ⟨d, ts, fp, ow, hf, r⟩ := h.any _ ht
  exact ⟨d, ts, fp, ow, fun g hg => ⟨by have := (hf g hg).1; omega, ow.lt g hg⟩, r⟩

end Go.Proofs.YtfegiccjfepnnaaDoor

/- The draw of an operation and its two terms. -/
namespace Go.Proofs.YtfegiccjfepnnaaDoor
open Go.RowKit
set_option linter.unusedVariables false

def opN (x y : Int) : List Int := [0, 1, -1, 1000000, x, 1000000000000, -1000000000000, y]
theorem opN_ok (x y : Int) (hx : I64 x) (h0 : 0 ≤ y) (h1 : y < 100) : ∀ z ∈ opN x y, I64 z := by
  intro z hz
  unfold I64 at *
  simp only [opN, List.mem_cons, List.not_mem_nil, or_false] at hz
  rcases hz with rfl | rfl | rfl | rfl | rfl | rfl | rfl | rfl <;> omega
def opS : List ByteArray := [⟨#[43]⟩, ⟨#[45]⟩, ⟨#[42]⟩, ⟨#[61, 61]⟩, ⟨#[60]⟩, ⟨#[45, 62]⟩, ⟨#[]⟩]
theorem ne3 {g x y z : Nat} {o1 o2 o3 : Obj} (h1 : x ≠ g) (h2 : y ≠ g) (h3 : z ≠ g) : ∀ q ∈ [(x, o1), (y, o2), (z, o3)], q.1 ≠ g := fun q hq => by
  rcases List.mem_cons.1 hq with rfl | hq
  · exact h1
  · rcases List.mem_cons.1 hq with rfl | hq
    · exact h2
    · obtain rfl := List.mem_singleton.1 hq
      exact h3
theorem DOp.drew {w V : World} {a : Option Addr} {len cap : Nat} {bs : List (Nat × Obj)} {tt : List (Int × Int × ByteArray × Value)} (h : DOp w V a len cap bs tt) : DOp w V.drew a len cap bs tt := ⟨h.cur.same rfl, h.b.drew, h.at_, fun t ht => (h.any t ht).kept fun _ _ _ _ => rfl⟩
theorem l1Str_op {w V : World} {a : Option Addr} {len cap : Nat} {zs : List Int} {bs : List (Nat × Obj)} {tt : List (Int × Int × ByteArray × Value)} (h : DOp w V a len cap bs tt)
    (hr : IsRow .u8 (V.alloc (.cells #[.string ⟨#[43]⟩, .string ⟨#[45]⟩, .string ⟨#[42]⟩, .string ⟨#[61, 61]⟩, .string ⟨#[60]⟩, .string ⟨#[45, 62]⟩, .string ⟨#[]⟩] 9)).drew a len cap zs) (hne : ∀ x, a = some x → 0 < cap → x.block ≠ w.heap.size + 2) (hm : len ≤ 1048576) :
    Calls Tryd.prog 31 #[.pointer (some ⟨w.heap.size + 2, 0, none⟩), .slice (some ⟨V.heap.size, 0, none⟩) 7 7] (V.alloc (.cells #[.string ⟨#[43]⟩, .string ⟨#[45]⟩, .string ⟨#[42]⟩, .string ⟨#[61, 61]⟩, .string ⟨#[60]⟩, .string ⟨#[45, 62]⟩, .string ⟨#[]⟩] 9)).drew fun e w' => ∃ x, e = .returned (.string x) ∧ Hid (DOp w w' a len cap bs tt) := by
  have hD := (h.add (.cells #[.string ⟨#[43]⟩, .string ⟨#[45]⟩, .string ⟨#[42]⟩, .string ⟨#[61, 61]⟩, .string ⟨#[60]⟩, .string ⟨#[45, 62]⟩, .string ⟨#[]⟩] 9)).drew
  have hp := h.cur.lt
  refine (l1Str_any (w.heap.size + 2) len cap a zs V.heap.size 0 7 7 opS _ hD.cur hr hne (by omega) (by omega) rfl (by omega) (by omega) (fun j hj => list_cellsS V opS _ _ rfl j hj)).mono ?_
  rintro e w' ⟨x, _, rfl, hc, hg⟩
  exact ⟨x, rfl, (hD.grown hg hc).fewB fun q hq => .tail _ hq⟩

/-- What comes of the draw. -/
def DrOpRes (w : World) (e : Ending) (w' : World) : Prop := ∃ op k1 n1 s1 a1 l1 c1 k2 n2 s2 a2 l2 c2, e = .returned (.tuple #[.string op, .agg #[.int .i64 k1, .int .i64 n1, .string s1, .slice a1 l1 c1], .agg #[.int .i64 k2, .int .i64 n2, .string s2, .slice a2 l2 c2]]) ∧ AnyT w' w.heap.size k1 n1 s1 (.slice a1 l1 c1) 200 ∧ AnyT w' w.heap.size k2 n2 s2 (.slice a2 l2 c2) 200 ∧ Below w.heap.size w w'

set_option maxRecDepth 100000 in
set_option maxHeartbeats 4000000 in
theorem drawOperate_any (a : Option Addr) (len cap : Nat) (zs : List Int) (w : World) (hr : IsRow .u8 w a len cap zs) (hm : len ≤ 1048576) :
    Calls Tryd.prog 13 #[.slice a len cap] w fun e w' => DrOpRes w e w' := by
  obtain ⟨W2, hW2⟩ : ∃ W, W = (w.alloc (.cells #[.int .i64 0, .int .i64 0, .string ⟨#[]⟩, .slice none 0 0] 28)).alloc (.cells #[.int .i64 0, .int .i64 0, .string ⟨#[]⟩, .slice none 0 0] 28) := ⟨_, rfl⟩
  have hz2 : W2.heap.size = w.heap.size + 2 := by rw [hW2]; simp
  have hb2 : Below w.heap.size w W2 := by rw [hW2]; exact ((Below.refl _ _).alloc (Nat.le_refl _) _).alloc (by simp) _
  have nR0 : W2.heap[w.heap.size]? = some (.cells #[.int .i64 0, .int .i64 0, .string ⟨#[]⟩, .slice none 0 0] 28) := by rw [hW2]; exact (((Below.refl _ _).alloc (Nat.le_refl _) _ : Below (w.alloc (.cells #[.int .i64 0, .int .i64 0, .string ⟨#[]⟩, .slice none 0 0] 28)).heap.size _ _).block _ (by simp)).trans (heap_alloc_new w _)
  have nR1 : W2.heap[w.heap.size + 1]? = some (.cells #[.int .i64 0, .int .i64 0, .string ⟨#[]⟩, .slice none 0 0] 28) := by
    have := heap_alloc_new (w.alloc (.cells #[.int .i64 0, .int .i64 0, .string ⟨#[]⟩, .slice none 0 0] 28)) (.cells #[.int .i64 0, .int .i64 0, .string ⟨#[]⟩, .slice none 0 0] 28)
    rw [show (w.alloc (.cells #[.int .i64 0, .int .i64 0, .string ⟨#[]⟩, .slice none 0 0] 28)).heap.size = w.heap.size + 1 from by simp] at this
    rw [hW2]; exact this
  have hr2 := hr.later hb2
  have hne : ∀ x, a = some x → 0 < cap → x.block ≠ w.heap.size + 2 := by rw [← hz2]; exact isRow_old hr2
  have hN := l1New_any a len cap zs W2 hr2 (by omega)
  rw [hz2] at hN
  rw [hW2] at hN
  have HNE : Hid (∀ x, a = some x → 0 < cap → x.block ≠ w.heap.size + 2) := hne
  have HR : Hid (∀ V : World, Below w.heap.size w V → IsRow .u8 V a len cap zs) := fun V hV => hr.later hV
  have HW2 : Hid (W2 = _) := hW2
  clear hW2 hne hr hr2
  go_enter Tryd.func13, Tryd.ntmps13
  go_wp2_with fail
  refine hN.mono ?_
  clear hN
  rintro e w2 ⟨rfl, hc2, hb⟩
  rw [← HW2.out] at hb
  have hb' : Below W2.heap.size W2 w2 := by rw [hz2]; exact hb
  have H2 : Hid (DOp w w2 a len cap [(w.heap.size + 1, .cells #[.int .i64 0, .int .i64 0, .string ⟨#[]⟩, .slice none 0 0] 28), (w.heap.size, .cells #[.int .i64 0, .int .i64 0, .string ⟨#[]⟩, .slice none 0 0] 28)] []) := ⟨hc2, hb2.trans (hb'.mono hb2.size), fun x hx => by
    rcases List.mem_cons.1 hx with rfl | hx
    · exact ⟨by show _ ≤ w.heap.size + 1; omega, by show w.heap.size + 1 ≠ _; omega, (hb.block _ (by omega)).trans nR1⟩
    · obtain rfl := List.mem_singleton.1 hx
      exact ⟨Nat.le_refl _, by show w.heap.size ≠ _; omega, (hb.block _ (by omega)).trans nR0⟩, fun t ht => absurd ht List.not_mem_nil⟩
  have hA := l2Any_any (w.heap.size + 2) len cap a zs w2 hc2 (HR.out w2 H2.out.b) HNE.out (by omega)
  clear hc2 hb hb' hb2 nR0 nR1 HW2 hz2
  go_wp2_with fail
  refine hA.mono ?_
  clear hA
  rintro e w3 ⟨k1, n1, s1, a1, l1, c1, rfl, HP⟩
  have H3 := H2.out.drawn HP.out
  obtain ⟨V3, hV3⟩ : ∃ X, X = w3.alloc (.cells #[.int .i64 k1, .int .i64 n1, .string s1, .slice a1 l1 c1] 28) := ⟨_, rfl⟩
  have H4 := H3.add (.cells #[.int .i64 k1, .int .i64 n1, .string s1, .slice a1 l1 c1] 28)
  rw [← hV3] at H4
  have hA := l2Any_any (w.heap.size + 2) len cap a zs V3 H4.cur (HR.out V3 H4.b) HNE.out (by omega)
  rw [hV3] at hA
  have HV3 : Hid (V3 = _) := hV3
  have H5 : Hid (DOp w V3 a len cap _ _) := H4
  have hl3 : w.heap.size + 2 < w3.heap.size := H3.cur.lt
  clear H2 H3 H4 HP hV3
  go_wp2_with fail
  refine hA.mono ?_
  clear hA
  rintro e w4 ⟨k2, n2, s2, a2, l2, c2, rfl, HP⟩
  rw [← HV3.out] at HP
  have H6 := H5.out.drawn HP.out
  have hl4 : w3.heap.size < w4.heap.size := Nat.lt_of_lt_of_le (by rw [HV3.out]; simp) HP.out.2.2.size
  obtain ⟨V4, hV4⟩ : ∃ X, X = w4.alloc (.cells #[.int .i64 k2, .int .i64 n2, .string s2, .slice a2 l2 c2] 28) := ⟨_, rfl⟩
  have H7 := H6.add (.cells #[.int .i64 k2, .int .i64 n2, .string s2, .slice a2 l2 c2] 28)
  rw [← hV4] at H7
  have hO := l1OnceT_any (w.heap.size + 2) len cap a zs 3 V4 H7.cur (HR.out V4 H7.b) HNE.out (by omega) (by omega) (by omega)
  rw [hV4] at hO
  have HV4 : Hid (V4 = _) := hV4
  have H8 : Hid (DOp w V4 a len cap _ _) := H7
  clear H5 H6 H7 HP hV4 HV3
  go_wp2_with fail
  refine hO.mono ?_
  clear hO
  rintro e w5 ⟨b, rfl, hc5, hg5⟩
  rw [← HV4.out] at hg5
  have H9 : Hid (DOp w w5 a len cap _ _) := H8.out.grown hg5 hc5
  clear H8 hc5 hg5 HV4
  cases b
  · have hB := l1Below_any (w.heap.size + 2) len cap a zs 100 w5 H9.out.cur (HR.out w5 H9.out.b) HNE.out (by omega) (by omega) (by omega)
    go_wp2_with fail
    refine hB.mono ?_
    clear hB
    rintro e w6 ⟨z, hz0, hz1, rfl, hc6, hg6⟩
    have H10 : Hid (DOp w w6 a len cap _ _) := H9.out.grown hg6 hc6
    clear H9 hc6 hg6
    have hp := H10.out.cur.lt
    have hrr := HR.out w6 H10.out.b
    have hcc := H10.out.cur
    go_wp2_with fail
    refine (l1Int_any (w.heap.size + 2) len cap a zs w6.heap.size 0 8 8 (opN (-1000001) z) _ (hcc.same (Below.heap_alloc w6 _ _ hp)) (hrr.grown (World.grownBy_alloc w6 _ (some (w.heap.size + 2))) HNE.out) HNE.out (by omega) (by omega) rfl (by omega) (by omega) (list_cells w6 (opN (-1000001) z) _ 3 rfl)).mono ?_
    rintro e w7 ⟨x, hx, rfl, hc, hg⟩
    have hx64 : I64 x := opN_ok _ _ (by unfold I64; omega) hz0 hz1 x hx
    have H11 : Hid (DOp w w7 a len cap _ _) := (((H10.out.add _).fewB fun q hq => .tail _ hq).grown hg hc)
    clear H10 hp hrr hcc hc hg hx hz0 hz1
    obtain ⟨⟨e0, e1, e2, e3⟩, y0, y1, y2, y3⟩ := H11.out.four w3.heap.size _ _ _ _ _ (by first | exact .head _ | exact .tail _ (.head _) | exact .tail _ (.tail _ (.head _)) | exact .tail _ (.tail _ (.tail _ (.head _))))
    obtain ⟨Y, hY⟩ : ∃ X, X = ((((w7.setCell ⟨w3.heap.size, 0, none⟩ (.int .i64 1)).setCell ⟨w3.heap.size, 1, none⟩ (.int .i64 x)).setCell ⟨w3.heap.size, 2, none⟩ (.string ⟨#[]⟩)).setCell ⟨w3.heap.size, 3, none⟩ (.slice none 0 0)) := ⟨_, rfl⟩
    have H12 : DOp w _ a len cap [(w4.heap.size, .cells #[.int .i64 k2, .int .i64 n2, .string s2, .slice a2 l2 c2] 28), (w3.heap.size, .cells #[.int .i64 1, .int .i64 x, .string ⟨#[]⟩, .slice none 0 0] 28), (w.heap.size + 1, .cells #[.int .i64 0, .int .i64 0, .string ⟨#[]⟩, .slice none 0 0] 28), (w.heap.size, .cells #[.int .i64 0, .int .i64 0, .string ⟨#[]⟩, .slice none 0 0] 28)] _ := DOp.put (x0 := .int .i64 1) (x1 := .int .i64 x) (x2 := .string ⟨#[]⟩) (x3 := .slice none 0 0) (bs1 := [(w4.heap.size, .cells #[.int .i64 k2, .int .i64 n2, .string s2, .slice a2 l2 c2] 28)]) (bs2 := [(w.heap.size + 1, .cells #[.int .i64 0, .int .i64 0, .string ⟨#[]⟩, .slice none 0 0] 28), (w.heap.size, .cells #[.int .i64 0, .int .i64 0, .string ⟨#[]⟩, .slice none 0 0] 28)]) H11.out (ne3 (by omega) (by omega) (by omega))
    rw [← hY] at H12
    have hB := l1Below_any (w.heap.size + 2) len cap a zs 100 Y H12.cur (HR.out Y H12.b) HNE.out (by omega) (by omega) (by omega)
    rw [hY] at hB
    have HY : Hid (Y = _) := hY
    have HX : Hid (I64 x) := hx64
    have H13 : Hid (DOp w Y a len cap _ _) := H12
    clear H11 H12 hY hx64
    go_wp2_with fail
    refine hB.mono ?_
    clear hB e0 e1 e2 e3 y0 y1 y2 y3
    rintro e w8 ⟨z2, hz0, hz1, rfl, hc, hg⟩
    rw [← HY.out] at hg
    have H14 : Hid (DOp w w8 a len cap _ _) := H13.out.grown hg hc
    clear H13 HY hc hg
    have hp := H14.out.cur.lt
    have hrr := HR.out w8 H14.out.b
    have hcc := H14.out.cur
    go_wp2_with fail
    refine (l1Int_any (w.heap.size + 2) len cap a zs w8.heap.size 0 8 8 (opN 1000001 z2) _ (hcc.same (Below.heap_alloc w8 _ _ hp)) (hrr.grown (World.grownBy_alloc w8 _ (some (w.heap.size + 2))) HNE.out) HNE.out (by omega) (by omega) rfl (by omega) (by omega) (list_cells w8 (opN 1000001 z2) _ 3 rfl)).mono ?_
    rintro e w9 ⟨y, hx, rfl, hc, hg⟩
    have hx64 : I64 y := opN_ok _ _ (by unfold I64; omega) hz0 hz1 y hx
    have H15 : Hid (DOp w w9 a len cap _ _) := (((H14.out.add _).fewB fun q hq => .tail _ hq).grown hg hc)
    clear H14 hp hrr hcc hc hg hx hz0 hz1
    obtain ⟨⟨e0, e1, e2, e3⟩, y0, y1, y2, y3⟩ := H15.out.four w4.heap.size _ _ _ _ _ (by first | exact .head _ | exact .tail _ (.head _) | exact .tail _ (.tail _ (.head _)) | exact .tail _ (.tail _ (.tail _ (.head _))))
    obtain ⟨Y, hY⟩ : ∃ X, X = ((((w9.setCell ⟨w4.heap.size, 0, none⟩ (.int .i64 1)).setCell ⟨w4.heap.size, 1, none⟩ (.int .i64 y)).setCell ⟨w4.heap.size, 2, none⟩ (.string ⟨#[]⟩)).setCell ⟨w4.heap.size, 3, none⟩ (.slice none 0 0)) := ⟨_, rfl⟩
    have H16 : DOp w _ a len cap [(w4.heap.size, .cells #[.int .i64 1, .int .i64 y, .string ⟨#[]⟩, .slice none 0 0] 28), (w3.heap.size, .cells #[.int .i64 1, .int .i64 x, .string ⟨#[]⟩, .slice none 0 0] 28), (w.heap.size + 1, .cells #[.int .i64 0, .int .i64 0, .string ⟨#[]⟩, .slice none 0 0] 28), (w.heap.size, .cells #[.int .i64 0, .int .i64 0, .string ⟨#[]⟩, .slice none 0 0] 28)] _ := DOp.put (x0 := .int .i64 1) (x1 := .int .i64 y) (x2 := .string ⟨#[]⟩) (x3 := .slice none 0 0) (bs1 := []) (bs2 := [(w3.heap.size, .cells #[.int .i64 1, .int .i64 x, .string ⟨#[]⟩, .slice none 0 0] 28), (w.heap.size + 1, .cells #[.int .i64 0, .int .i64 0, .string ⟨#[]⟩, .slice none 0 0] 28), (w.heap.size, .cells #[.int .i64 0, .int .i64 0, .string ⟨#[]⟩, .slice none 0 0] 28)]) H15.out (ne3 (by omega) (by omega) (by omega))
    rw [← hY] at H16
    have H17 : Hid (DOp w Y a len cap _ _) := ((H16.leaf 1 y (by unfold I64; omega) hx64 none 0).leaf 1 x (by unfold I64; omega) HX.out none 0)
    have HY : Hid (Y = _) := hY
    have HB9 : Hid _ := H15.out.four w4.heap.size _ _ _ _ _ (by first | exact .head _ | exact .tail _ (.head _) | exact .tail _ (.tail _ (.head _)) | exact .tail _ (.tail _ (.tail _ (.head _))))
    clear H15 H16 hx64 hY e0 e1 e2 e3 y0 y1 y2 y3
    obtain ⟨⟨e0, e1, e2, e3⟩, _⟩ := H17.out.four w3.heap.size _ _ _ _ _ (by first | exact .head _ | exact .tail _ (.head _) | exact .tail _ (.tail _ (.head _)) | exact .tail _ (.tail _ (.tail _ (.head _))))
    obtain ⟨⟨f0, f1, f2, f3⟩, _⟩ := H17.out.four w4.heap.size _ _ _ _ _ (by first | exact .head _ | exact .tail _ (.head _) | exact .tail _ (.tail _ (.head _)) | exact .tail _ (.tail _ (.tail _ (.head _))))
    have hla := H17.out.lt (w3.heap.size, _) (by first | exact .head _ | exact .tail _ (.head _) | exact .tail _ (.tail _ (.head _)) | exact .tail _ (.tail _ (.tail _ (.head _))))
    have hlb := H17.out.lt (w4.heap.size, _) (by first | exact .head _ | exact .tail _ (.head _) | exact .tail _ (.tail _ (.head _)) | exact .tail _ (.tail _ (.tail _ (.head _))))
    have hl0 := H17.out.lt (w.heap.size, _) (by first | exact .head _ | exact .tail _ (.head _) | exact .tail _ (.tail _ (.head _)) | exact .tail _ (.tail _ (.tail _ (.head _))))
    have hl1 := H17.out.lt (w.heap.size + 1, _) (by first | exact .head _ | exact .tail _ (.head _) | exact .tail _ (.tail _ (.head _)) | exact .tail _ (.tail _ (.tail _ (.head _))))
    have hp := H17.out.cur.lt
    have hS := l1Str_op H17.out (HR.out _ ((H17.out.b.alloc H17.out.b.size _).drew)) HNE.out (by omega)
    have HS : Hid (Calls Tryd.prog _ _ _ _) := hS
    have HSK : Hid (∀ (X : World) (o1 o0 : Obj) (tq : List (Int × Int × ByteArray × Value)), DOp w X a len cap [(w4.heap.size, .cells #[.int .i64 1, .int .i64 y, .string ⟨#[]⟩, .slice none 0 0] 28), (w3.heap.size, .cells #[.int .i64 1, .int .i64 x, .string ⟨#[]⟩, .slice none 0 0] 28), (w.heap.size + 1, o1), (w.heap.size, o0)] tq → ((X.cell? ⟨w3.heap.size, 0, none⟩ = some (.int .i64 1) ∧ X.cell? ⟨w3.heap.size, 1, none⟩ = some (.int .i64 x) ∧ X.cell? ⟨w3.heap.size, 2, none⟩ = some (.string ⟨#[]⟩) ∧ X.cell? ⟨w3.heap.size, 3, none⟩ = some (.slice none 0 0)) ∧ (X.cell? ⟨w4.heap.size, 0, none⟩ = some (.int .i64 1) ∧ X.cell? ⟨w4.heap.size, 1, none⟩ = some (.int .i64 y) ∧ X.cell? ⟨w4.heap.size, 2, none⟩ = some (.string ⟨#[]⟩) ∧ X.cell? ⟨w4.heap.size, 3, none⟩ = some (.slice none 0 0)))) := fun X o1 o0 tq h => ⟨(h.four w3.heap.size _ _ _ _ _ (by first | exact .head _ | exact .tail _ (.head _) | exact .tail _ (.tail _ (.head _)) | exact .tail _ (.tail _ (.tail _ (.head _))))).1, (h.four w4.heap.size _ _ _ _ _ (by first | exact .head _ | exact .tail _ (.head _) | exact .tail _ (.tail _ (.head _)) | exact .tail _ (.tail _ (.tail _ (.head _))))).1⟩
    have HP0 : Hid (∀ (X : World) (tq : List (Int × Int × ByteArray × Value)), DOp w X a len cap [(w4.heap.size, .cells #[.int .i64 1, .int .i64 y, .string ⟨#[]⟩, .slice none 0 0] 28), (w3.heap.size, .cells #[.int .i64 1, .int .i64 x, .string ⟨#[]⟩, .slice none 0 0] 28), (w.heap.size + 1, .cells #[.int .i64 0, .int .i64 0, .string ⟨#[]⟩, .slice none 0 0] 28), (w.heap.size, .cells #[.int .i64 0, .int .i64 0, .string ⟨#[]⟩, .slice none 0 0] 28)] tq → DOp w ((((X.setCell ⟨w.heap.size, 0, none⟩ (.int .i64 1)).setCell ⟨w.heap.size, 1, none⟩ (.int .i64 x)).setCell ⟨w.heap.size, 2, none⟩ (.string ⟨#[]⟩)).setCell ⟨w.heap.size, 3, none⟩ (.slice none 0 0)) a len cap [(w4.heap.size, .cells #[.int .i64 1, .int .i64 y, .string ⟨#[]⟩, .slice none 0 0] 28), (w3.heap.size, .cells #[.int .i64 1, .int .i64 x, .string ⟨#[]⟩, .slice none 0 0] 28), (w.heap.size + 1, .cells #[.int .i64 0, .int .i64 0, .string ⟨#[]⟩, .slice none 0 0] 28), (w.heap.size, .cells #[.int .i64 1, .int .i64 x, .string ⟨#[]⟩, .slice none 0 0] 28)] tq) := fun X tq h => DOp.put (bs1 := [(w4.heap.size, .cells #[.int .i64 1, .int .i64 y, .string ⟨#[]⟩, .slice none 0 0] 28), (w3.heap.size, .cells #[.int .i64 1, .int .i64 x, .string ⟨#[]⟩, .slice none 0 0] 28), (w.heap.size + 1, .cells #[.int .i64 0, .int .i64 0, .string ⟨#[]⟩, .slice none 0 0] 28)]) (bs2 := []) h (ne3 (by omega) (by omega) (by omega))
    have HP1 : Hid (∀ (X : World) (tq : List (Int × Int × ByteArray × Value)), DOp w X a len cap [(w4.heap.size, .cells #[.int .i64 1, .int .i64 y, .string ⟨#[]⟩, .slice none 0 0] 28), (w3.heap.size, .cells #[.int .i64 1, .int .i64 x, .string ⟨#[]⟩, .slice none 0 0] 28), (w.heap.size + 1, .cells #[.int .i64 0, .int .i64 0, .string ⟨#[]⟩, .slice none 0 0] 28), (w.heap.size, .cells #[.int .i64 1, .int .i64 x, .string ⟨#[]⟩, .slice none 0 0] 28)] tq → DOp w ((((X.setCell ⟨w.heap.size + 1, 0, none⟩ (.int .i64 1)).setCell ⟨w.heap.size + 1, 1, none⟩ (.int .i64 y)).setCell ⟨w.heap.size + 1, 2, none⟩ (.string ⟨#[]⟩)).setCell ⟨w.heap.size + 1, 3, none⟩ (.slice none 0 0)) a len cap [(w4.heap.size, .cells #[.int .i64 1, .int .i64 y, .string ⟨#[]⟩, .slice none 0 0] 28), (w3.heap.size, .cells #[.int .i64 1, .int .i64 x, .string ⟨#[]⟩, .slice none 0 0] 28), (w.heap.size + 1, .cells #[.int .i64 1, .int .i64 y, .string ⟨#[]⟩, .slice none 0 0] 28), (w.heap.size, .cells #[.int .i64 1, .int .i64 x, .string ⟨#[]⟩, .slice none 0 0] 28)] tq) := fun X tq h => DOp.put (bs1 := [(w4.heap.size, .cells #[.int .i64 1, .int .i64 y, .string ⟨#[]⟩, .slice none 0 0] 28), (w3.heap.size, .cells #[.int .i64 1, .int .i64 x, .string ⟨#[]⟩, .slice none 0 0] 28)]) (bs2 := [(w.heap.size, .cells #[.int .i64 1, .int .i64 x, .string ⟨#[]⟩, .slice none 0 0] 28)]) h (ne3 (by omega) (by omega) (by omega))
    have HD0 : Hid (DOp w Y.drew a len cap [(w4.heap.size, .cells #[.int .i64 1, .int .i64 y, .string ⟨#[]⟩, .slice none 0 0] 28), (w3.heap.size, .cells #[.int .i64 1, .int .i64 x, .string ⟨#[]⟩, .slice none 0 0] 28), (w.heap.size + 1, .cells #[.int .i64 0, .int .i64 0, .string ⟨#[]⟩, .slice none 0 0] 28), (w.heap.size, .cells #[.int .i64 0, .int .i64 0, .string ⟨#[]⟩, .slice none 0 0] 28)] _) := H17.out.drew
    have HDA : Hid (∀ o : Obj, DOp w (Y.alloc o).drew a len cap [(w4.heap.size, .cells #[.int .i64 1, .int .i64 y, .string ⟨#[]⟩, .slice none 0 0] 28), (w3.heap.size, .cells #[.int .i64 1, .int .i64 x, .string ⟨#[]⟩, .slice none 0 0] 28), (w.heap.size + 1, .cells #[.int .i64 0, .int .i64 0, .string ⟨#[]⟩, .slice none 0 0] 28), (w.heap.size, .cells #[.int .i64 0, .int .i64 0, .string ⟨#[]⟩, .slice none 0 0] 28)] _) := fun o => ((H17.out.add o).fewB fun q hq => .tail _ hq).drew
    clear hS e0 e1 e2 e3 f0 f1 f2 f3
    obtain ⟨⟨e0, e1, e2, e3⟩, y0, y1, y2, y3⟩ := HB9.out
    go_wp2_with fail
    rw [← HY.out]
    go_region_held3 (fun V => (V.cell? ⟨w3.heap.size, 0, none⟩ = some (.int .i64 1) ∧ V.cell? ⟨w3.heap.size, 1, none⟩ = some (.int .i64 x) ∧ V.cell? ⟨w3.heap.size, 2, none⟩ = some (.string ⟨#[]⟩) ∧ V.cell? ⟨w3.heap.size, 3, none⟩ = some (.slice none 0 0)) ∧ (V.cell? ⟨w4.heap.size, 0, none⟩ = some (.int .i64 1) ∧ V.cell? ⟨w4.heap.size, 1, none⟩ = some (.int .i64 y) ∧ V.cell? ⟨w4.heap.size, 2, none⟩ = some (.string ⟨#[]⟩) ∧ V.cell? ⟨w4.heap.size, 3, none⟩ = some (.slice none 0 0))) (first | (with_reducible exact HSK.out _ _ _ _ HD.out) | (with_reducible exact HSK.out _ _ _ _ (HP0.out _ _ HD.out)) | (with_reducible exact HSK.out _ _ _ _ (HP1.out _ _ (HP0.out _ _ HD.out))) | (with_reducible exact HSK.out _ _ _ _ HD0.out) | (with_reducible exact HSK.out _ _ _ _ (HDA.out _)) | (with_reducible exact HSK.out _ _ _ _ H17.out)) (first | (go_at_call 31; refine HS.out.mono ?_; rintro e V8 ⟨op, rfl, HD⟩; obtain ⟨⟨r0, r1, r2, r3⟩, v0, v1, v2, v3⟩ := HD.out.four w.heap.size _ _ _ _ _ (by first | exact .head _ | exact .tail _ (.head _) | exact .tail _ (.tail _ (.head _)) | exact .tail _ (.tail _ (.tail _ (.head _)))); obtain ⟨⟨t0, t1, t2, t3⟩, u0, u1, u2, u3⟩ := HD.out.four (w.heap.size + 1) _ _ _ _ _ (by first | exact .head _ | exact .tail _ (.head _) | exact .tail _ (.tail _ (.head _)) | exact .tail _ (.tail _ (.tail _ (.head _))))))
    all_goals
      have HF2 := HP1.out _ _ (HP0.out _ _ HD.out)
      have HF : Hid (DrOpRes w (.returned (.tuple #[.string op, .agg #[.int .i64 1, .int .i64 x, .string ⟨#[]⟩, .slice none 0 0], .agg #[.int .i64 1, .int .i64 y, .string ⟨#[]⟩, .slice none 0 0]])) _) := ⟨op, _, _, _, _, _, _, _, _, _, _, _, _, rfl, HF2.out (by first | exact .head _ | exact .tail _ (.head _) | exact .tail _ (.tail _ (.head _)) | exact .tail _ (.tail _ (.tail _ (.head _)))), HF2.out (by first | exact .head _ | exact .tail _ (.head _) | exact .tail _ (.tail _ (.head _)) | exact .tail _ (.tail _ (.tail _ (.head _)))), HF2.b⟩
      clear HF2
      go_wp2_with fail
      refine bodyPost_ret (v := .tuple #[.string op, .agg #[.int .i64 1, .int .i64 x, .string ⟨#[]⟩, .slice none 0 0], .agg #[.int .i64 1, .int .i64 y, .string ⟨#[]⟩, .slice none 0 0]]) (by first | (simp [results, Tryd.results13, go_sem, r0, r1, r2, r3, t0, t1, t2, t3]; done) | (simp [results, Tryd.results13, go_sem, r0, r1, r2, r3, t0, t1, t2, t3]; rfl)) rfl HF.out
  · obtain ⟨⟨e0, e1, e2, e3⟩, _⟩ := H9.out.four w3.heap.size _ _ _ _ _ (by first | exact .head _ | exact .tail _ (.head _) | exact .tail _ (.tail _ (.head _)) | exact .tail _ (.tail _ (.tail _ (.head _))))
    obtain ⟨⟨f0, f1, f2, f3⟩, _⟩ := H9.out.four w4.heap.size _ _ _ _ _ (by first | exact .head _ | exact .tail _ (.head _) | exact .tail _ (.tail _ (.head _)) | exact .tail _ (.tail _ (.tail _ (.head _))))
    have hla := H9.out.lt (w3.heap.size, _) (by first | exact .head _ | exact .tail _ (.head _) | exact .tail _ (.tail _ (.head _)) | exact .tail _ (.tail _ (.tail _ (.head _))))
    have hlb := H9.out.lt (w4.heap.size, _) (by first | exact .head _ | exact .tail _ (.head _) | exact .tail _ (.tail _ (.head _)) | exact .tail _ (.tail _ (.tail _ (.head _))))
    have hl0 := H9.out.lt (w.heap.size, _) (by first | exact .head _ | exact .tail _ (.head _) | exact .tail _ (.tail _ (.head _)) | exact .tail _ (.tail _ (.tail _ (.head _))))
    have hl1 := H9.out.lt (w.heap.size + 1, _) (by first | exact .head _ | exact .tail _ (.head _) | exact .tail _ (.tail _ (.head _)) | exact .tail _ (.tail _ (.tail _ (.head _))))
    have hp := H9.out.cur.lt
    have hS := l1Str_op H9.out (HR.out _ ((H9.out.b.alloc H9.out.b.size _).drew)) HNE.out (by omega)
    have HS : Hid (Calls Tryd.prog _ _ _ _) := hS
    have HSK : Hid (∀ (X : World) (o1 o0 : Obj) (tq : List (Int × Int × ByteArray × Value)), DOp w X a len cap [(w4.heap.size, .cells #[.int .i64 k2, .int .i64 n2, .string s2, .slice a2 l2 c2] 28), (w3.heap.size, .cells #[.int .i64 k1, .int .i64 n1, .string s1, .slice a1 l1 c1] 28), (w.heap.size + 1, o1), (w.heap.size, o0)] tq → ((X.cell? ⟨w3.heap.size, 0, none⟩ = some (.int .i64 k1) ∧ X.cell? ⟨w3.heap.size, 1, none⟩ = some (.int .i64 n1) ∧ X.cell? ⟨w3.heap.size, 2, none⟩ = some (.string s1) ∧ X.cell? ⟨w3.heap.size, 3, none⟩ = some (.slice a1 l1 c1)) ∧ (X.cell? ⟨w4.heap.size, 0, none⟩ = some (.int .i64 k2) ∧ X.cell? ⟨w4.heap.size, 1, none⟩ = some (.int .i64 n2) ∧ X.cell? ⟨w4.heap.size, 2, none⟩ = some (.string s2) ∧ X.cell? ⟨w4.heap.size, 3, none⟩ = some (.slice a2 l2 c2)))) := fun X o1 o0 tq h => ⟨(h.four w3.heap.size _ _ _ _ _ (by first | exact .head _ | exact .tail _ (.head _) | exact .tail _ (.tail _ (.head _)) | exact .tail _ (.tail _ (.tail _ (.head _))))).1, (h.four w4.heap.size _ _ _ _ _ (by first | exact .head _ | exact .tail _ (.head _) | exact .tail _ (.tail _ (.head _)) | exact .tail _ (.tail _ (.tail _ (.head _))))).1⟩
    have HP0 : Hid (∀ (X : World) (tq : List (Int × Int × ByteArray × Value)), DOp w X a len cap [(w4.heap.size, .cells #[.int .i64 k2, .int .i64 n2, .string s2, .slice a2 l2 c2] 28), (w3.heap.size, .cells #[.int .i64 k1, .int .i64 n1, .string s1, .slice a1 l1 c1] 28), (w.heap.size + 1, .cells #[.int .i64 0, .int .i64 0, .string ⟨#[]⟩, .slice none 0 0] 28), (w.heap.size, .cells #[.int .i64 0, .int .i64 0, .string ⟨#[]⟩, .slice none 0 0] 28)] tq → DOp w ((((X.setCell ⟨w.heap.size, 0, none⟩ (.int .i64 k1)).setCell ⟨w.heap.size, 1, none⟩ (.int .i64 n1)).setCell ⟨w.heap.size, 2, none⟩ (.string s1)).setCell ⟨w.heap.size, 3, none⟩ (.slice a1 l1 c1)) a len cap [(w4.heap.size, .cells #[.int .i64 k2, .int .i64 n2, .string s2, .slice a2 l2 c2] 28), (w3.heap.size, .cells #[.int .i64 k1, .int .i64 n1, .string s1, .slice a1 l1 c1] 28), (w.heap.size + 1, .cells #[.int .i64 0, .int .i64 0, .string ⟨#[]⟩, .slice none 0 0] 28), (w.heap.size, .cells #[.int .i64 k1, .int .i64 n1, .string s1, .slice a1 l1 c1] 28)] tq) := fun X tq h => DOp.put (bs1 := [(w4.heap.size, .cells #[.int .i64 k2, .int .i64 n2, .string s2, .slice a2 l2 c2] 28), (w3.heap.size, .cells #[.int .i64 k1, .int .i64 n1, .string s1, .slice a1 l1 c1] 28), (w.heap.size + 1, .cells #[.int .i64 0, .int .i64 0, .string ⟨#[]⟩, .slice none 0 0] 28)]) (bs2 := []) h (ne3 (by omega) (by omega) (by omega))
    have HP1 : Hid (∀ (X : World) (tq : List (Int × Int × ByteArray × Value)), DOp w X a len cap [(w4.heap.size, .cells #[.int .i64 k2, .int .i64 n2, .string s2, .slice a2 l2 c2] 28), (w3.heap.size, .cells #[.int .i64 k1, .int .i64 n1, .string s1, .slice a1 l1 c1] 28), (w.heap.size + 1, .cells #[.int .i64 0, .int .i64 0, .string ⟨#[]⟩, .slice none 0 0] 28), (w.heap.size, .cells #[.int .i64 k1, .int .i64 n1, .string s1, .slice a1 l1 c1] 28)] tq → DOp w ((((X.setCell ⟨w.heap.size + 1, 0, none⟩ (.int .i64 k2)).setCell ⟨w.heap.size + 1, 1, none⟩ (.int .i64 n2)).setCell ⟨w.heap.size + 1, 2, none⟩ (.string s2)).setCell ⟨w.heap.size + 1, 3, none⟩ (.slice a2 l2 c2)) a len cap [(w4.heap.size, .cells #[.int .i64 k2, .int .i64 n2, .string s2, .slice a2 l2 c2] 28), (w3.heap.size, .cells #[.int .i64 k1, .int .i64 n1, .string s1, .slice a1 l1 c1] 28), (w.heap.size + 1, .cells #[.int .i64 k2, .int .i64 n2, .string s2, .slice a2 l2 c2] 28), (w.heap.size, .cells #[.int .i64 k1, .int .i64 n1, .string s1, .slice a1 l1 c1] 28)] tq) := fun X tq h => DOp.put (bs1 := [(w4.heap.size, .cells #[.int .i64 k2, .int .i64 n2, .string s2, .slice a2 l2 c2] 28), (w3.heap.size, .cells #[.int .i64 k1, .int .i64 n1, .string s1, .slice a1 l1 c1] 28)]) (bs2 := [(w.heap.size, .cells #[.int .i64 k1, .int .i64 n1, .string s1, .slice a1 l1 c1] 28)]) h (ne3 (by omega) (by omega) (by omega))
    have HD0 : Hid (DOp w w5.drew a len cap [(w4.heap.size, .cells #[.int .i64 k2, .int .i64 n2, .string s2, .slice a2 l2 c2] 28), (w3.heap.size, .cells #[.int .i64 k1, .int .i64 n1, .string s1, .slice a1 l1 c1] 28), (w.heap.size + 1, .cells #[.int .i64 0, .int .i64 0, .string ⟨#[]⟩, .slice none 0 0] 28), (w.heap.size, .cells #[.int .i64 0, .int .i64 0, .string ⟨#[]⟩, .slice none 0 0] 28)] _) := H9.out.drew
    have HDA : Hid (∀ o : Obj, DOp w (w5.alloc o).drew a len cap [(w4.heap.size, .cells #[.int .i64 k2, .int .i64 n2, .string s2, .slice a2 l2 c2] 28), (w3.heap.size, .cells #[.int .i64 k1, .int .i64 n1, .string s1, .slice a1 l1 c1] 28), (w.heap.size + 1, .cells #[.int .i64 0, .int .i64 0, .string ⟨#[]⟩, .slice none 0 0] 28), (w.heap.size, .cells #[.int .i64 0, .int .i64 0, .string ⟨#[]⟩, .slice none 0 0] 28)] _) := fun o => ((H9.out.add o).fewB fun q hq => .tail _ hq).drew
    clear hS e0 e1 e2 e3 f0 f1 f2 f3
    
    go_wp2_with fail
    
    go_region_held3 (fun V => (V.cell? ⟨w3.heap.size, 0, none⟩ = some (.int .i64 k1) ∧ V.cell? ⟨w3.heap.size, 1, none⟩ = some (.int .i64 n1) ∧ V.cell? ⟨w3.heap.size, 2, none⟩ = some (.string s1) ∧ V.cell? ⟨w3.heap.size, 3, none⟩ = some (.slice a1 l1 c1)) ∧ (V.cell? ⟨w4.heap.size, 0, none⟩ = some (.int .i64 k2) ∧ V.cell? ⟨w4.heap.size, 1, none⟩ = some (.int .i64 n2) ∧ V.cell? ⟨w4.heap.size, 2, none⟩ = some (.string s2) ∧ V.cell? ⟨w4.heap.size, 3, none⟩ = some (.slice a2 l2 c2))) (first | (with_reducible exact HSK.out _ _ _ _ HD.out) | (with_reducible exact HSK.out _ _ _ _ (HP0.out _ _ HD.out)) | (with_reducible exact HSK.out _ _ _ _ (HP1.out _ _ (HP0.out _ _ HD.out))) | (with_reducible exact HSK.out _ _ _ _ HD0.out) | (with_reducible exact HSK.out _ _ _ _ (HDA.out _)) | (with_reducible exact HSK.out _ _ _ _ H9.out)) (first | (go_at_call 31; refine HS.out.mono ?_; rintro e V8 ⟨op, rfl, HD⟩; obtain ⟨⟨r0, r1, r2, r3⟩, v0, v1, v2, v3⟩ := HD.out.four w.heap.size _ _ _ _ _ (by first | exact .head _ | exact .tail _ (.head _) | exact .tail _ (.tail _ (.head _)) | exact .tail _ (.tail _ (.tail _ (.head _)))); obtain ⟨⟨t0, t1, t2, t3⟩, u0, u1, u2, u3⟩ := HD.out.four (w.heap.size + 1) _ _ _ _ _ (by first | exact .head _ | exact .tail _ (.head _) | exact .tail _ (.tail _ (.head _)) | exact .tail _ (.tail _ (.tail _ (.head _))))))
    all_goals
      have HF2 := HP1.out _ _ (HP0.out _ _ HD.out)
      have HF : Hid (DrOpRes w (.returned (.tuple #[.string op, .agg #[.int .i64 k1, .int .i64 n1, .string s1, .slice a1 l1 c1], .agg #[.int .i64 k2, .int .i64 n2, .string s2, .slice a2 l2 c2]])) _) := ⟨op, _, _, _, _, _, _, _, _, _, _, _, _, rfl, HF2.out (by first | exact .head _ | exact .tail _ (.head _) | exact .tail _ (.tail _ (.head _)) | exact .tail _ (.tail _ (.tail _ (.head _)))), HF2.out (by first | exact .head _ | exact .tail _ (.head _) | exact .tail _ (.tail _ (.head _)) | exact .tail _ (.tail _ (.tail _ (.head _)))), HF2.b⟩
      clear HF2
      go_wp2_with fail
      refine bodyPost_ret (v := .tuple #[.string op, .agg #[.int .i64 k1, .int .i64 n1, .string s1, .slice a1 l1 c1], .agg #[.int .i64 k2, .int .i64 n2, .string s2, .slice a2 l2 c2]]) (by first | (simp [results, Tryd.results13, go_sem, r0, r1, r2, r3, t0, t1, t2, t3]; done) | (simp [results, Tryd.results13, go_sem, r0, r1, r2, r3, t0, t1, t2, t3]; rfl)) rfl HF.out

end Go.Proofs.YtfegiccjfepnnaaDoor
