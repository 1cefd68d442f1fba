/- Which operation a name means: the program's. -/
import Derived.Test.YtfegiccjfepnnaaDoorOp5M
import Derived.Test.YtfegiccjfepnnaaDoorGmM
namespace Go.Proofs.YtfegiccjfepnnaaDoor
open Go.RowKit
set_option linter.unusedVariables false

set_option maxRecDepth 100000 in
theorem arithmetic_any (g p : Nat) (w : World) (hp : w.heap.size = p) : Calls Tryd.prog 51 #[.func (.func g) #[] #[]] w fun e w' => e = .returned (.func (.func 72) #[] #[.pointer (some ⟨p, 0, none⟩)]) ∧ w' = w.alloc (.cells #[.func (.func g) #[] #[]] 86) := by
  subst hp
  have hmf : ∀ (fn : Fn) (first cap : Array Value) (w : World), (Instr.makeFunc fn first cap).run Tryd.prog w = .ok (.func fn first cap) w := fun _ _ _ _ => rfl
  go_enter Tryd.func51, Tryd.ntmps51
  go_wp2_with fail
  go_ret
  exact ⟨rfl, rfl⟩
set_option maxRecDepth 100000 in
theorem comparison_any (g p : Nat) (w : World) (hp : w.heap.size = p) : Calls Tryd.prog 55 #[.func (.func g) #[] #[]] w fun e w' => e = .returned (.func (.func 74) #[] #[.pointer (some ⟨p, 0, none⟩)]) ∧ w' = w.alloc (.cells #[.func (.func g) #[] #[]] 32) := by
  subst hp
  have hmf : ∀ (fn : Fn) (first cap : Array Value) (w : World), (Instr.makeFunc fn first cap).run Tryd.prog w = .ok (.func fn first cap) w := fun _ _ _ _ => rfl
  go_enter Tryd.func55, Tryd.ntmps55
  go_wp2_with fail
  go_ret
  exact ⟨rfl, rfl⟩

abbrev BEnt := Nat × Nat × TypeId
/-- The table under way: the map, and the boxes that its closures hold. -/
structure OSt (w V : World) (l : List GEnt) (bx : List BEnt) : Prop where
  bel : Below w.heap.size w V
  mp : GMap V w.heap.size l
  box : ∀ x ∈ bx, w.heap.size < x.1 ∧ V.heap[x.1]? = some (.cells #[.func (.func x.2.1) #[] #[]] x.2.2 (0, 0))

theorem OSt.made (w : World) : OSt w (w.alloc (.map #[] 0)) [] [] := ⟨(Below.refl _ _).alloc (Nat.le_refl _) _, GMap.made w, fun x h => absurd h List.not_mem_nil⟩
theorem OSt.step {w V : World} {l : List GEnt} {bx : List BEnt} (h : OSt w V l bx) (p : Nat) (hp : V.heap.size = p) (s : ByteArray) (hn : gget l s = none) (f g : Nat) (t : TypeId) :
    ∃ V2, (Instr.mapUpdate 92 (.map (some w.heap.size)) (.string s) (.func (.func f) #[] #[.pointer (some ⟨p, 0, none⟩)])).run Tryd.prog (V.alloc (.cells #[.func (.func g) #[] #[]] t)) = .ok () V2 ∧ V2.heap.size = p + 1 ∧ OSt w V2 (l ++ [(s, .func (.func f) #[] #[.pointer (some ⟨p, 0, none⟩)])]) (bx ++ [(p, g, t)]) := by
  subst hp
  have hlt := h.mp.lt
  have hA : Below V.heap.size V (V.alloc (.cells #[.func (.func g) #[] #[]] t)) := (Below.refl _ _).alloc (Nat.le_refl _) _
  have hM : GMap (V.alloc (.cells #[.func (.func g) #[] #[]] t)) w.heap.size l := h.mp.kept (hA.block _ hlt)
  obtain ⟨V2, r1, r2, r3⟩ := hM.store (t := 92) (e := 66) Tryd.underlying92 s hn (.func (.func f) #[] #[.pointer (some ⟨V.heap.size, 0, none⟩)])
  obtain ⟨es, cl, es', cl', q1, q2⟩ := r3
  have hs : V2.heap.size = V.heap.size + 1 := by rw [q2]; simp [ChangeMaps.setBlock]
  have ho : ∀ i, i ≠ w.heap.size → V2.heap[i]? = (V.alloc (.cells #[.func (.func g) #[] #[]] t)).heap[i]? := fun i hi => by
    rw [q2]
    simp [ChangeMaps.setBlock, Ne.symm hi]
  refine ⟨V2, r1, hs, ⟨?_, r2, fun x hx => ?_⟩⟩
  · have hB := h.bel.trans (hA.mono h.bel.size)
    exact hB.trans ⟨by rw [q2]; rfl, by rw [q2]; rfl, by rw [q2]; rfl, by rw [hs]; simp, fun i hi => ho i (by omega)⟩
  · rcases List.mem_append.1 hx with hx | hx
    · obtain ⟨b1, b2⟩ := h.box x hx
      exact ⟨b1, by rw [ho _ (by omega), hA.block _ (lt_row b2)]; exact b2⟩
    · obtain rfl := List.mem_singleton.1 hx
      exact ⟨hlt, by rw [ho _ (by show V.heap.size ≠ _; omega)]; exact heap_alloc_new V _⟩

end Go.Proofs.YtfegiccjfepnnaaDoor

/- Which operation a name means: the program's, whole. -/
namespace Go.Proofs.YtfegiccjfepnnaaDoor
open Go.RowKit
set_option linter.unusedVariables false

/-- The closure that f is, over the box p. -/
def cloV (f p : Nat) : Value := .func (.func f) #[] #[.pointer (some ⟨p, 0, none⟩)]
/-- What a name means: a closure f over a box that holds g. -/
def OpFn (op : ByteArray) (f g : Nat) : Prop :=
  (op = ⟨#[43]⟩ ∧ f = 72 ∧ g = 52) ∨ (op = ⟨#[45]⟩ ∧ f = 72 ∧ g = 53) ∨ (op = ⟨#[42]⟩ ∧ f = 72 ∧ g = 54) ∨
  (op = ⟨#[61, 61]⟩ ∧ f = 74 ∧ g = 15) ∨ (op = ⟨#[60]⟩ ∧ f = 74 ∧ g = 56)
def OfRes (op : ByteArray) (w : World) (e : Ending) (w' : World) : Prop :=
  (e = .returned .nilFunc ∧ ¬ OpP op ∧ Below w.heap.size w w') ∨ ∃ f g p t, e = .returned (.func (.func f) #[] #[.pointer (some ⟨p, 0, none⟩)]) ∧ OpFn op f g ∧ w'.heap[p]? = some (.cells #[.func (.func g) #[] #[]] t (0, 0)) ∧ Below w.heap.size w w'

theorem of_table (op : ByteArray) (p1 p2 p3 p4 p5 : Nat) (t1 t2 : TypeId) (w V : World) (l : List GEnt) (hl : l = [(⟨#[43]⟩, cloV 72 p1), (⟨#[45]⟩, cloV 72 p2), (⟨#[42]⟩, cloV 72 p3), (⟨#[61, 61]⟩, cloV 74 p4), (⟨#[60]⟩, cloV 74 p5)])
    (h : OSt w V l [(p1, 52, t1), (p2, 53, t1), (p3, 54, t1), (p4, 15, t2), (p5, 56, t2)]) :
    OfRes op w (.returned ((gget l op).getD .nilFunc)) V := by
  subst hl
  have b1 := (h.box (p1, 52, t1) (by simp)).2
  have b2 := (h.box (p2, 53, t1) (by simp)).2
  have b3 := (h.box (p3, 54, t1) (by simp)).2
  have b4 := (h.box (p4, 15, t2) (by simp)).2
  have b5 := (h.box (p5, 56, t2) (by simp)).2
  have hB := h.bel
  simp only [gget]
  by_cases h1 : (⟨#[43]⟩ : ByteArray) = op
  · rw [if_pos h1]; exact .inr ⟨_, _, p1, _, rfl, .inl ⟨h1.symm, rfl, rfl⟩, b1, hB⟩
  rw [if_neg h1]
  by_cases h2 : (⟨#[45]⟩ : ByteArray) = op
  · rw [if_pos h2]; exact .inr ⟨_, _, p2, _, rfl, .inr (.inl ⟨h2.symm, rfl, rfl⟩), b2, hB⟩
  rw [if_neg h2]
  by_cases h3 : (⟨#[42]⟩ : ByteArray) = op
  · rw [if_pos h3]; exact .inr ⟨_, _, p3, _, rfl, .inr (.inr (.inl ⟨h3.symm, rfl, rfl⟩)), b3, hB⟩
  rw [if_neg h3]
  by_cases h4 : (⟨#[61, 61]⟩ : ByteArray) = op
  · rw [if_pos h4]; exact .inr ⟨_, _, p4, _, rfl, .inr (.inr (.inr (.inl ⟨h4.symm, rfl, rfl⟩))), b4, hB⟩
  rw [if_neg h4]
  by_cases h5 : (⟨#[60]⟩ : ByteArray) = op
  · rw [if_pos h5]; exact .inr ⟨_, _, p5, _, rfl, .inr (.inr (.inr (.inr ⟨h5.symm, rfl, rfl⟩))), b5, hB⟩
  rw [if_neg h5]
  refine .inl ⟨rfl, fun hP => ?_, hB⟩
  rcases hP with q | q | q | q | q
  · exact h1 (str_same0 (by rw [q, ByteArray.toList_eq]))
  · exact h2 (str_same0 (by rw [q, ByteArray.toList_eq]))
  · exact h3 (str_same0 (by rw [q, ByteArray.toList_eq]))
  · exact h4 (str_same0 (by rw [q, ByteArray.toList_eq]))
  · exact h5 (str_same0 (by rw [q, ByteArray.toList_eq]))

set_option maxRecDepth 100000 in
set_option maxHeartbeats 2000000 in
theorem operationOf_any (op : ByteArray) (w : World) : Calls Tryd.prog 39 #[.string op] w fun e w' => OfRes op w e w' := by
  have hmf : ∀ (fn : Fn) (first cap : Array Value) (w : World), (Instr.makeFunc fn first cap).run Tryd.prog w = .ok (.func fn first cap) w := fun _ _ _ _ => rfl
  have hmm := @run_makeMap Tryd.prog
  obtain ⟨p1, hp1⟩ : ∃ p, (w.alloc (.map #[] 0)).heap.size = p := ⟨_, rfl⟩
  obtain ⟨V1, m1, s1, S1⟩ := (OSt.made w).step p1 hp1 ⟨#[43]⟩ rfl 72 52 86
  obtain ⟨p2, hp2⟩ : ∃ p, V1.heap.size = p := ⟨_, rfl⟩
  obtain ⟨V2, m2, s2, S2⟩ := S1.step p2 hp2 ⟨#[45]⟩ rfl 72 53 86
  obtain ⟨p3, hp3⟩ : ∃ p, V2.heap.size = p := ⟨_, rfl⟩
  obtain ⟨V3, m3, s3, S3⟩ := S2.step p3 hp3 ⟨#[42]⟩ rfl 72 54 86
  obtain ⟨p4, hp4⟩ : ∃ p, V3.heap.size = p := ⟨_, rfl⟩
  obtain ⟨V4, m4, s4, S4⟩ := S3.step p4 hp4 ⟨#[61, 61]⟩ rfl 74 15 32
  obtain ⟨p5, hp5⟩ : ∃ p, V4.heap.size = p := ⟨_, rfl⟩
  obtain ⟨V5, m5, s5, S5⟩ := S4.step p5 hp5 ⟨#[60]⟩ rfl 74 56 32
  have hz : (zeroValue 66).run Tryd.prog V5 = .ok .nilFunc V5 := by go_simp
  have hL := S5.mp.look Tryd.underlying92 op hz
  have c1 := arithmetic_any 52 p1 (w.alloc (.map #[] 0)) hp1
  have c2 := arithmetic_any 53 p2 V1 hp2
  have c3 := arithmetic_any 54 p3 V2 hp3
  have c4 := comparison_any 15 p4 V3 hp4
  have c5 := comparison_any 56 p5 V4 hp5
  generalize hR : (gget _ op).getD Value.nilFunc = R at hL
  have HR : Hid (OfRes op w (.returned R) V5) := by rw [← hR]; exact of_table op p1 p2 p3 p4 p5 _ _ w V5 _ rfl S5
  clear S1 S2 S3 S4 S5 s1 s2 s3 s4 s5 hp1 hp2 hp3 hp4 hp5 hz hR
  go_enter Tryd.func39, Tryd.ntmps39
  go_wp2_with fail
  refine c1.mono ?_
  rintro e _ ⟨rfl, rfl⟩
  go_wp2_with fail
  refine c2.mono ?_
  rintro e _ ⟨rfl, rfl⟩
  go_wp2_with fail
  refine c3.mono ?_
  rintro e _ ⟨rfl, rfl⟩
  go_wp2_with fail
  refine c4.mono ?_
  rintro e _ ⟨rfl, rfl⟩
  go_wp2_with fail
  refine c5.mono ?_
  rintro e _ ⟨rfl, rfl⟩
  go_wp2_with fail
  go_ret
  exact HR.out

end Go.Proofs.YtfegiccjfepnnaaDoor

/- What the operations do: the program's, whichever it is. -/
namespace Go.Proofs.YtfegiccjfepnnaaDoor
open Go.RowKit
set_option linter.unusedVariables false

theorem enters_ari1 : ∀ args w, (callFunc 72 args).run Tryd.prog w = .ok (.enter 72 args) w := enters_of Tryd.func72 (by kernel_rfl) rfl
theorem enters_cmp1 : ∀ args w, (callFunc 74 args).run Tryd.prog w = .ok (.enter 74 args) w := enters_of Tryd.func74 (by kernel_rfl) rfl
theorem enters_plus : ∀ args w, (callFunc 52 args).run Tryd.prog w = .ok (.enter 52 args) w := enters_of Tryd.func52 (by kernel_rfl) rfl
theorem enters_minus : ∀ args w, (callFunc 53 args).run Tryd.prog w = .ok (.enter 53 args) w := enters_of Tryd.func53 (by kernel_rfl) rfl
theorem enters_product : ∀ args w, (callFunc 54 args).run Tryd.prog w = .ok (.enter 54 args) w := enters_of Tryd.func54 (by kernel_rfl) rfl
theorem enters_same : ∀ args w, (callFunc 15 args).run Tryd.prog w = .ok (.enter 15 args) w := enters_of Tryd.func15 (by kernel_rfl) rfl
theorem enters_less : ∀ args w, (callFunc 56 args).run Tryd.prog w = .ok (.enter 56 args) w := enters_of Tryd.func56 (by kernel_rfl) rfl

theorem OpFn.enters {op : ByteArray} {f g : Nat} (h : OpFn op f g) : ∀ args w, (callFunc f args).run Tryd.prog w = .ok (.enter f args) w := by
  rcases h with ⟨_, rfl, _⟩ | ⟨_, rfl, _⟩ | ⟨_, rfl, _⟩ | ⟨_, rfl, _⟩ | ⟨_, rfl, _⟩
  · exact enters_ari1
  · exact enters_ari1
  · exact enters_ari1
  · exact enters_cmp1
  · exact enters_cmp1
theorem OpFn.op {op : ByteArray} {f g : Nat} (h : OpFn op f g) : OpP op := by
  unfold OpP
  rcases h with ⟨rfl, _⟩ | ⟨rfl, _⟩ | ⟨rfl, _⟩ | ⟨rfl, _⟩ | ⟨rfl, _⟩ <;> simp [ByteArray.toList_eq]

theorem ari_opG {d : Nat} (op : ByteArray) (r : Int) (a b : Tm (d + 1)) (h1 : op.toList ≠ [61, 61]) (h2 : op.toList ≠ [60]) (h : a.K = 1 → b.K = 1 → (fitsN r ↔ fitsN (numD op a.N b.N)) ∧ (fitsN r → r = numD op a.N b.N)) : ariD r a.K b.K = opG op a b := by
  unfold ariD opG
  rw [if_neg h1, if_neg h2]
  by_cases hq : a.K = 1 ∧ b.K = 1 ∧ fitsN r
  · obtain ⟨q1, q2⟩ := h hq.1 hq.2.1
    rw [if_pos hq, if_pos ⟨hq.1, hq.2.1, q1.1 hq.2.2⟩, ← q2 hq.2.2]
  · rw [if_neg hq, if_neg]
    rintro ⟨k1, k2, k3⟩
    exact hq ⟨k1, k2, (h k1 k2).1.2 k3⟩

theorem prod_same (a b : Int) : (fitsN (prodD a b) ↔ fitsN (a * b)) ∧ (fitsN (prodD a b) → prodD a b = a * b) := by
  unfold prodD
  by_cases h : fitsN (a * b)
  · rw [if_pos h]; exact ⟨Iff.rfl, fun _ => rfl⟩
  · rw [if_neg h]
    have hn : ¬ fitsN 1000000000001 := by unfold fitsN; omega
    exact ⟨⟨fun q => absurd q hn, fun q => absurd q h⟩, fun q => absurd q hn⟩

theorem roots_of {d : Nat} {ka na : Int} {sa : ByteArray} {va : Value} {ta : List (Tm d)} {kb nb : Int} {sb : ByteArray} {vb : Value} {tb : List (Tm d)} {w : World} (ra : RdL d w va ta) (rb : RdL d w vb tb) (ha : RightM d (mk ka na sa ta)) (hb : RightM d (mk kb nb sb tb)) :
    RootsOk w ka na sa va kb nb sb vb (1 + cntL d ta) (Lt (d + 1) (mk ka na sa ta) (mk kb nb sb tb)) (mk ka na sa ta = mk kb nb sb tb) ∧ 1 + cntL d ta ≤ 300 := by
  refine ⟨⟨d, ta, tb, ra, rb, ha.1, hb.1, ha.2.1, hb.2.1, rfl, Iff.rfl, Iff.rfl⟩, ?_⟩
  have := ha.2.2.2
  have h2 : ((1 + cntL d ta : Nat) : Int) ≤ 300 := this
  omega

theorem opFn_any {d : Nat} (op : ByteArray) (f g p : Nat) (t : TypeId) (h : OpFn op f g) (ka na : Int) (sa : ByteArray) (aa : Option Addr) (la ca : Nat) (ta : List (Tm d)) (kb nb : Int) (sb : ByteArray) (ab : Option Addr) (lb cb : Nat) (tb : List (Tm d)) (w : World)
    (hbx : w.heap[p]? = some (.cells #[.func (.func g) #[] #[]] t (0, 0))) (ra : RdL d w (.slice aa la ca) ta) (rb : RdL d w (.slice ab lb cb) tb) (hA : RightM d (mk ka na sa ta)) (hB : RightM d (mk kb nb sb tb)) :
    Calls Tryd.prog f #[.agg #[.int .i64 ka, .int .i64 na, .string sa, .slice aa la ca], .agg #[.int .i64 kb, .int .i64 nb, .string sb, .slice ab lb cb], .pointer (some ⟨p, 0, none⟩)] w fun e w' => PRes (opG op (mk ka na sa ta) (mk kb nb sb tb)) w e w' := by
  have hq : w.cell? ⟨p, 0, none⟩ = some (.func (.func g) #[] #[]) := by rw [cell_of_row w _ 0 _ _ _ hbx]; rfl
  have hql := lt_row hbx
  have fa : ka = 1 → fitsN na := fun e => right_num hA e
  have fb : kb = 1 → fitsN nb := fun e => right_num hB e
  rcases h with ⟨rfl, rfl, rfl⟩ | ⟨rfl, rfl, rfl⟩ | ⟨rfl, rfl, rfl⟩ | ⟨rfl, rfl, rfl⟩ | ⟨rfl, rfl, rfl⟩
  · rw [← ari_opG ⟨#[43]⟩ (na + nb) (mk ka na sa ta) (mk kb nb sb tb) (by simp [ByteArray.toList_eq]) (by simp [ByteArray.toList_eq]) (fun _ _ => by simp [numD, ByteArray.toList_eq, mk, Tm.N])]
    exact ari1_any _ enters_plus (na + nb) ka na sa _ kb nb sb _ p w hq hql fun e1 e2 W => opPlus_any na nb W (fa e1) (fb e2)
  · rw [← ari_opG ⟨#[45]⟩ (na - nb) (mk ka na sa ta) (mk kb nb sb tb) (by simp [ByteArray.toList_eq]) (by simp [ByteArray.toList_eq]) (fun _ _ => by simp [numD, ByteArray.toList_eq, mk, Tm.N])]
    exact ari1_any _ enters_minus (na - nb) ka na sa _ kb nb sb _ p w hq hql fun e1 e2 W => opMinus_any na nb W (fa e1) (fb e2)
  · rw [← ari_opG ⟨#[42]⟩ (prodD na nb) (mk ka na sa ta) (mk kb nb sb tb) (by simp [ByteArray.toList_eq]) (by simp [ByteArray.toList_eq]) (fun _ _ => by
      have := prod_same na nb
      have hn : numD ⟨#[42]⟩ (mk ka na sa ta).N (mk kb nb sb tb).N = na * nb := by simp [numD, ByteArray.toList_eq, mk, Tm.N]
      rw [hn]
      exact this)]
    exact ari1_any _ enters_product (prodD na nb) ka na sa _ kb nb sb _ p w hq hql fun e1 e2 W => product_any na nb W (fa e1) (fb e2)
  · refine (cmp1_any _ enters_same (mk ka na sa ta = mk kb nb sb tb) ka na sa _ kb nb sb _ p w hq hql fun W hW => ?_).mono ?_
    · obtain ⟨hR, hC⟩ := roots_of (ra.later hW) (rb.later hW) hA hB
      refine (sameTerm_any _ _ _ aa la ca _ _ _ ab lb cb _ _ _ W hR hC).mono ?_
      rintro e w' ⟨r, rfl, hr, hbl⟩
      exact ⟨r, rfl, hr.out, hbl⟩
    · rintro e w' ⟨b, hb, hP⟩
      have hG : opG ⟨#[61, 61]⟩ (mk ka na sa ta) (mk kb nb sb tb) = (2, 0, boolT b, 0) := by
        unfold opG boolT
        rw [if_pos (by simp [ByteArray.toList_eq])]
        by_cases hq : mk ka na sa ta = mk kb nb sb tb
        · rw [if_pos hq, if_pos (hb.out.2 hq)]
        · rw [if_neg hq, if_neg fun h => hq (hb.out.1 h)]
      rw [hG]
      exact hP
  · refine (cmp1_any _ enters_less (Lt (d + 1) (mk ka na sa ta) (mk kb nb sb tb)) ka na sa _ kb nb sb _ p w hq hql fun W hW => ?_).mono ?_
    · obtain ⟨hR, hC⟩ := roots_of (ra.later hW) (rb.later hW) hA hB
      refine (lessTerm_any _ _ _ aa la ca _ _ _ ab lb cb _ _ _ W hR hC).mono ?_
      rintro e w' ⟨r, rfl, hr, hbl⟩
      exact ⟨r, rfl, hr.out, hbl⟩
    · rintro e w' ⟨b, hb, hP⟩
      have hG : opG ⟨#[60]⟩ (mk ka na sa ta) (mk kb nb sb tb) = (2, 0, boolT b, 0) := by
        unfold opG boolT
        rw [if_neg (by simp [ByteArray.toList_eq]), if_pos (by simp [ByteArray.toList_eq])]
        by_cases hq : Lt (d + 1) (mk ka na sa ta) (mk kb nb sb tb)
        · rw [if_pos hq, if_pos (hb.out.2 hq)]
        · rw [if_neg hq, if_neg fun h => hq (hb.out.1 h)]
      rw [hG]
      exact hP

end Go.Proofs.YtfegiccjfepnnaaDoor
