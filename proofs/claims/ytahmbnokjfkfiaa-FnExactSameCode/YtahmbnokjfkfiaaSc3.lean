/- The program's sameFns: two lists of Fns held against each other. -/
import Derived.Test.YtahmbnokjfkfiaaSvI2
import Derived.Test.YtahmbnokjfkfiaaSc2
namespace Go.Proofs.Ytahmbnokjfkfiaa
open Go.RowKit
set_option linter.unusedVariables false

theorem own_fullG {α : Type} {k : Nat} {T : TypeId} {O : World → List Value → α → List Nat → Prop} {W : World} {v : Value} {xs : List α} {f : List Nat} (h : OwnRow k T O W v xs f) (h0 : 0 < xs.length) : ∃ g c cur, v = .slice (some ⟨g, 0, none⟩) xs.length c ∧ W.heap[g]? = some (.cells cur T (0, 0)) ∧ f = g :: f.tail := by
  rcases h with ⟨e, _⟩ | ⟨g, c, cur, fps, q1, q2, q3, q4, q5⟩
  · rw [e] at h0; simp at h0
  · exact ⟨g, c, cur, q1, q2, by rw [q4]; rfl⟩
theorem own_noneG {α : Type} {k : Nat} {T : TypeId} {O : World → List Value → α → List Nat → Prop} {W : World} {v : Value} {xs : List α} {f : List Nat} (h : OwnRow k T O W v xs f) (h0 : xs.length = 0) : ∃ a c, v = .slice a 0 c := by
  rcases h with ⟨_, _, a, c, e⟩ | ⟨g, c, cur, fps, q1, q2, q3, q4, q5⟩
  · exact ⟨a, c, e⟩
  · exact ⟨_, c, by rw [q1, h0]⟩
theorem own_lenG {α : Type} {k : Nat} {T : TypeId} {O : World → List Value → α → List Nat → Prop} {W : World} {v : Value} {xs : List α} {f : List Nat} (h : OwnRow k T O W v xs f) : ∃ a c, v = .slice a xs.length c := by
  rcases h with ⟨e0, _, a, c, e⟩ | ⟨g, c, cur, fps, q1, q2, q3, q4, q5⟩
  · exact ⟨a, c, by rw [e, e0]; rfl⟩
  · exact ⟨_, c, q1⟩

/-- What is told of the lists that are still in hand: none was met, no two are one. -/
def Lq (W : World) (p met nu : Nat) (f : Addr → Int → Option Value) (ext : List Nat) : Prop :=
  nu ≤ 2 * met ∧ (∀ g, ext.count g ≤ 1) ∧ (∀ g ∈ ext, g < W.heap.size ∧ g ≠ p) ∧ (∀ x n v, f x n = some v → x.block ∉ ext)
theorem Lq.less {W : World} {p met nu : Nat} {f : Addr → Int → Option Value} {ext ext' : List Nat} (h : Lq W p met nu f ext) (hc : ∀ g, ext'.count g ≤ ext.count g) : Lq W p met nu f ext' := by
  obtain ⟨h1, h2, h3, h4⟩ := h
  have hm : ∀ g, g ∈ ext' → g ∈ ext := fun g hg => by
    have := List.count_pos_iff.2 hg
    exact List.count_pos_iff.1 (by have := hc g; omega)
  exact ⟨h1, fun g => Nat.le_trans (hc g) (h2 g), fun g hg => h3 g (hm g hg), fun x n v hv hx => h4 x n v hv (hm _ hx)⟩
theorem Lq.fresh {W : World} {p met nu : Nat} {f : Addr → Int → Option Value} {ext t u : List Nat} {ga gb : Nat} (h : Lq W p met nu f ((ga :: t) ++ (gb :: u) ++ ext)) : ga ≠ p ∧ gb ≠ p ∧ ga ≠ gb ∧ (∀ n, f ⟨ga, 0, none⟩ n = none) ∧ (∀ n, f ⟨gb, 0, none⟩ n = none) ∧ nu ≤ 2 * met := by
  obtain ⟨h1, h4, h5, h6⟩ := h
  have ma : ga ∈ (ga :: t) ++ (gb :: u) ++ ext := by simp
  have mb : gb ∈ (ga :: t) ++ (gb :: u) ++ ext := by simp
  refine ⟨(h5 ga ma).2, (h5 gb mb).2, fun e => ?_, fun n => ?_, fun n => ?_, h1⟩
  · have q := h4 ga
    subst e
    simp only [List.count_append, List.count_cons_self] at q
    omega
  · cases hv : f ⟨ga, 0, none⟩ n with
    | none => rfl
    | some v => exact absurd ma (h6 _ n v hv)
  · cases hv : f ⟨gb, 0, none⟩ n with
    | none => rfl
    | some v => exact absurd mb (h6 _ n v hv)
theorem Lq.push {W : World} {p met nu nu' : Nat} {f f' : Addr → Int → Option Value} {ext t u : List Nat} {ga gb : Nat} (h : Lq W p met nu f ((ga :: t) ++ (gb :: u) ++ ext)) (hnu : nu' ≤ 2 * (met + 1)) (hf : ∀ x n v, f' x n = some v → f x n = some v ∨ x.block = ga ∨ x.block = gb) : Lq W p (met + 1) nu' f' ext := by
  obtain ⟨h1, h4, h5, h6⟩ := h
  have hc : ∀ g, ext.count g + (if ga = g then 1 else 0) + (if gb = g then 1 else 0) ≤ ((ga :: t) ++ (gb :: u) ++ ext).count g := fun g => by
    simp only [List.count_append, List.count_cons, beq_iff_eq]
    omega
  have hm : ∀ g, g ∈ ext → g ∈ (ga :: t) ++ (gb :: u) ++ ext := fun g hg => List.mem_append_right _ hg
  have hno : ∀ g, g ∈ ext → ga ≠ g ∧ gb ≠ g := fun g hg => by
    have q1 := List.count_pos_iff.2 hg
    have q2 := hc g
    have q3 := h4 g
    constructor
    · intro e; rw [if_pos e] at q2; omega
    · intro e; rw [if_pos e] at q2; omega
  refine ⟨hnu, fun g => by have := hc g; have := h4 g; omega, fun g hg => h5 g (hm g hg), fun x n v hv hx => ?_⟩
  rcases hf x n v hv with q | q | q
  · exact h6 x n v q (hm _ hx)
  · exact (hno _ hx).1 q.symm
  · exact (hno _ hx).2 q.symm

set_option maxHeartbeats 2000000 in
theorem fn1_no (x0 : ByteArray) (x1 : Int) (x2 : Int) (y0 : ByteArray) (y1 : Int) (y2 : Int) (a3 : Option Addr) (l3 c3 : Nat) (b3 : Option Addr) (m3 d3 : Nat) (q : Nat) (w : World) (h : ¬ (x0 = y0 ∧ x1 = y1 ∧ x2 = y2)) :
    Calls Try.prog 35 #[.agg #[.string x0, .int .i64 x1, .int .i64 x2, .slice a3 l3 c3], .agg #[.string y0, .int .i64 y1, .int .i64 y2, .slice b3 m3 d3], .pointer (some ⟨q, 0, none⟩)] w fun e w' => e = .returned (.bool false) ∧ Below w.heap.size w w' := by
  have hA : Below w.heap.size w ((w.alloc (.cells #[.string x0, .int .i64 x1, .int .i64 x2, .slice a3 l3 c3] 56)).alloc (.cells #[.string y0, .int .i64 y1, .int .i64 y2, .slice b3 m3 d3] 56)) := ((Below.refl _ _).alloc (Nat.le_refl _) _).alloc (by simp) _
  by_cases h0 : x0 = y0
  · subst h0
    by_cases h1 : x1 = y1
    · subst h1
      by_cases h2 : x2 = y2
      · subst h2
        exact absurd ⟨rfl, rfl, rfl⟩ h
      · skip
        clear h
        go_enter Try.func35, Try.ntmps35
        go_wp2_with fail
        go_ret
        exact ⟨rfl, hA⟩
    · skip
      clear h
      go_enter Try.func35, Try.ntmps35
      go_wp2_with fail
      go_ret
      exact ⟨rfl, hA⟩
  · have h0' : ¬ x0.toList = y0.toList := fun e => h0 (str_same0 e)
    clear h
    go_enter Try.func35, Try.ntmps35
    go_wp2_with fail
    go_ret
    exact ⟨rfl, hA⟩

def FnPost (TT : TypeId) (W : World) (p met : Nat) (tv : Value) (fs : List Tg) (ext : List Nat) (Q : Prop) (r : Bool) (w' : World) : Prop :=
  (r = true ↔ Q) ∧ ∃ met' nu' pv' uv' f', Sv 80 TT W w' p met' nu' pv' uv' tv f' fs [] ∧ Lq W p met' nu' f' ext ∧ met' ≤ met + 1

set_option maxRecDepth 100000 in
set_option maxHeartbeats 4000000 in
theorem fn1_yes {TT : TypeId} (W w : World) (p q met nu : Nat) (pv uv tv : Value) (f : Addr → Int → Option Value) (fs : List Tg) (S : ByteArray) (A T : Int) (v v' : Value) (xs ys : List DIns) (fx fy ext : List Nat) (h : Sv 80 TT W w p met nu pv uv tv f fs []) (hq : W.heap[q]? = some (.cells #[.pointer (some ⟨p, 0, none⟩)] 76 (0, 0))) (hqp : q ≠ p) (ox : OwnRow 4 73 InsO W v xs fx) (oy : OwnRow 4 73 InsO W v' ys fy) (hL : Lq W p met nu f (fx ++ fy ++ ext)) (hm : met ≤ 16777216) (q1 : xs.length ≤ 1048576) (q2 : ys.length ≤ 1048576) :
    Calls Try.prog 35 #[.agg #[.string S, .int .i64 A, .int .i64 T, v], .agg #[.string S, .int .i64 A, .int .i64 T, v'], .pointer (some ⟨q, 0, none⟩)] w fun e w' => ∃ r, e = .returned (.bool r) ∧ Hid (FnPost TT W p met tv fs ext (xs = ys) r w') := by
  obtain ⟨a3, c3, rfl⟩ := own_lenG ox
  obtain ⟨b3, d3, rfl⟩ := own_lenG oy
  have hnp : ∀ g ∈ fx ++ fy, g < W.heap.size ∧ g ≠ p := fun g hg => hL.2.2.1 g (List.mem_append_left _ hg)
  have HEQ : Hid (∀ (V : World) (met' nu' : Nat) (pv' uv' : Value) (f' : Addr → Int → Option Value) (K : List (Nat × Obj)), Sv 80 TT W V p met' nu' pv' uv' tv f' fs K → _) := fun V met' nu' pv' uv' f' K hV => equalIns_any _ _ xs ys V ((ox.frame InsO.lasts fun g hg => hV.kept.block g (hnp g (List.mem_append_left _ hg)).1 (by have := (hnp g (List.mem_append_left _ hg)).2; omega)).rd InsO.reads) ((oy.frame InsO.lasts fun g hg => hV.kept.block g (hnp g (List.mem_append_right _ hg)).1 (by have := (hnp g (List.mem_append_right _ hg)).2; omega)).rd InsO.reads) q1 q2
  obtain ⟨V1, hV1⟩ : ∃ V, V = w.alloc (.cells #[.string S, .int .i64 A, .int .i64 T, .slice a3 xs.length c3] 56) := ⟨_, rfl⟩
  have hs1 := h.keep _ hV1 (.cells #[.string S, .int .i64 A, .int .i64 T, .slice a3 xs.length c3] 56 (0, 0)) (by rw [hV1]; exact heap_alloc_new w _)
  have hz1 : V1.heap.size = w.heap.size + 1 := by rw [hV1]; simp
  obtain ⟨V2, hV2⟩ : ∃ V, V = V1.alloc (.cells #[.string S, .int .i64 A, .int .i64 T, .slice b3 ys.length d3] 56) := ⟨_, rfl⟩
  have hs2 := hs1.keep _ hV2 (.cells #[.string S, .int .i64 A, .int .i64 T, .slice b3 ys.length d3] 56 (0, 0)) (by rw [hV2]; exact heap_alloc_new V1 _)
  rw [hz1] at hs2
  rw [hV1] at hV2
  have HX : Hid (V2 = _) := hV2
  obtain ⟨l3, hl3⟩ : ∃ l, xs.length = l := ⟨_, rfl⟩
  obtain ⟨m3, hm3⟩ : ∃ l, ys.length = l := ⟨_, rfl⟩
  have HLN : Hid (xs.length = l3 ∧ ys.length = m3) := ⟨hl3, hm3⟩
  have HOX : Hid _ := ox
  have HOY : Hid _ := oy
  rw [hl3] at HX hs2 q1 HEQ ⊢
  rw [hm3] at HX hs2 q2 HEQ ⊢
  obtain ⟨K2, hK2⟩ : ∃ K2 : List (Nat × Obj), K2 = [(w.heap.size + 1, .cells #[.string S, .int .i64 A, .int .i64 T, .slice b3 m3 d3] 56 (0, 0)), (w.heap.size, .cells #[.string S, .int .i64 A, .int .i64 T, .slice a3 l3 c3] 56 (0, 0))] := ⟨_, rfl⟩
  have HK1 : Hid ((w.heap.size + 1, Obj.cells #[.string S, .int .i64 A, .int .i64 T, .slice b3 m3 d3] 56 (0, 0)) ∈ K2) := by rw [hK2]; exact List.mem_cons_self ..
  have HK2 : Hid ((w.heap.size, Obj.cells #[.string S, .int .i64 A, .int .i64 T, .slice a3 l3 c3] 56 (0, 0)) ∈ K2) := by rw [hK2]; exact List.mem_cons_of_mem _ (List.mem_cons_self ..)
  rw [← hK2] at hs2
  have HS : Hid (Sv 80 TT W V2 p met nu pv uv tv f fs K2) := hs2
  have HQC : Hid (∀ (V : World) (met' nu' : Nat) (pv' uv' : Value) (f' : Addr → Int → Option Value) (K : List (Nat × Obj)), Sv 80 TT W V p met' nu' pv' uv' tv f' fs K → V.cell? ⟨q, 0, none⟩ = some (.pointer (some ⟨p, 0, none⟩))) := fun V met' nu' pv' uv' f' K hV => by rw [cell_of_row V _ 0 _ _ _ (hV.at hq hqp)]; rfl
  have HBC : Hid (∀ (V : World) (met' nu' : Nat) (pv' uv' : Value) (f' : Addr → Int → Option Value), Sv 80 TT W V p met' nu' pv' uv' tv f' fs K2 → V.cell? ⟨w.heap.size, 3, none⟩ = some (.slice a3 l3 c3) ∧ V.cell? ⟨w.heap.size + 1, 3, none⟩ = some (.slice b3 m3 d3)) := fun V met' nu' pv' uv' f' hV => ⟨by rw [cell_of_row V _ 3 _ _ _ (hV.ext _ HK2.out).1]; rfl, by rw [cell_of_row V _ 3 _ _ _ (hV.ext _ HK1.out).1]; rfl⟩
  have HQ0 : Hid (W.heap[q]? = some (.cells #[.pointer (some ⟨p, 0, none⟩)] 76 (0, 0)) ∧ q ≠ p ∧ q < w.heap.size) := ⟨hq, hqp, Nat.lt_of_lt_of_le (lt_row hq) h.kept.size⟩
  have HLQ : Hid (Lq W p met nu f (fx ++ fy ++ ext)) := hL
  have hq0 : V2.cell? ⟨q, 0, none⟩ = some (.pointer (some ⟨p, 0, none⟩)) := HQC.out _ _ _ _ _ _ _ HS.out
  have hqc : ((w.alloc (.cells #[.string S, .int .i64 A, .int .i64 T, .slice a3 l3 c3] 56)).alloc (.cells #[.string S, .int .i64 A, .int .i64 T, .slice b3 m3 d3] 56)).cell? ⟨q, 0, none⟩ = some (.pointer (some ⟨p, 0, none⟩)) := by rw [← HX.out]; exact hq0
  clear h ox oy hL hq hqp hs1 hs2 hV1 hV2 hz1 hK2 hl3 hm3 HK1 HK2 hnp hq0
  by_cases he : l3 = 0 ∨ m3 = 0
  · have hC := takenI_none p a3 l3 c3 b3 m3 d3 V2 he q1 q2
    by_cases hlm : l3 = m3
    · subst hlm
      have hd : decide (l3 = l3) = true := decide_eq_true rfl
      rw [hd, HX.out] at hC
      have HF : Hid (xs = ys) := by
        have h1 := HLN.out
        have h0 : l3 = 0 := by omega
        show xs = ys
        rw [List.length_eq_zero_iff.1 (h1.1.trans h0), List.length_eq_zero_iff.1 (h1.2.trans h0)]
      clear he hd q1 q2
      go_enter Try.func35, Try.ntmps35
      go_wp2_with fail
      refine hC.mono ?_
      clear hC
      rintro e w1 ⟨rfl, rfl⟩
      go_wp2_with fail
      go_ret
      rw [← HX.out]
      exact ⟨true, rfl, ⟨fun _ => HF.out, fun _ => rfl⟩, met, nu, pv, uv, f, HS.out.drop (fun q hq => by cases hq), HLQ.out.less (fun g => by simp only [List.count_append]; omega), Nat.le_succ _⟩
    · have hd : decide (l3 = m3) = false := decide_eq_false hlm
      rw [hd, HX.out] at hC
      have HF : Hid (¬ xs = ys) := fun e => hlm (by have := HLN.out; rw [e] at this; omega)
      have hE := HEQ.out _ _ _ _ _ _ _ HS.out
      rw [eqw_no HF.out, HX.out] at hE
      clear he hd q1 q2 hlm
      go_enter Try.func35, Try.ntmps35
      go_wp2_with fail
      refine hC.mono ?_
      clear hC
      rintro e w1 ⟨rfl, rfl⟩
      go_wp2_with fail
      refine hE.mono ?_
      clear hE
      rintro e w2 ⟨rfl, hb2⟩
      rw [← HX.out] at hb2
      have HS2 : Hid (Sv 80 TT W w2 p met nu pv uv tv f fs K2) := HS.out.later hb2
      clear hb2
      go_wp2_with fail
      go_ret
      exact ⟨false, rfl, ⟨fun e => (by cases e), fun e => absurd e HF.out⟩, met, nu, pv, uv, f, HS2.out.drop (fun q hq => by cases hq), HLQ.out.less (fun g => by simp only [List.count_append]; omega), Nat.le_succ _⟩
  · have hl0 : 0 < l3 := by omega
    have hm0 : 0 < m3 := by omega
    obtain ⟨ha, ca, cuA, eA, hHa, hf1⟩ := own_fullG HOX.out (by have := HLN.out; omega)
    obtain ⟨hb, cb, cuB, eB, hHb, hf2⟩ := own_fullG HOY.out (by have := HLN.out; omega)
    simp only [Value.slice.injEq] at eA eB
    obtain ⟨rfl, _, rfl⟩ := eA
    obtain ⟨rfl, _, rfl⟩ := eB
    have hLL := HLQ.out
    rw [hf1, hf2] at hLL
    obtain ⟨r1, r2, r3, r4, r5, r6⟩ := hLL.fresh
    have hC := takenI_new HS.out ha l3 c3 hb m3 d3 hl0 hm0 q1 q2 cuA cuB _ _ hHa hHb r1 r2 r3 r4 r5 hm r6
    rw [HX.out] at hC
    have HL2 : Hid (∀ nu' f', nu' ≤ 2 * (met + 1) → (∀ x n v, f' x n = some v → f x n = some v ∨ x.block = ha ∨ x.block = hb) → Lq W p (met + 1) nu' f' ext) := fun nu' f' h1 h2 => hLL.push h1 h2
    clear he hHa hHb hf1 hf2 r1 r2 r3 r4 r5 r6 hLL hm q1 q2 hl0 hm0 HOX HOY
    go_enter Try.func35, Try.ntmps35
    go_wp2_with fail
    refine hC.mono ?_
    clear hC
    rintro e w1 ⟨rfl, HQ⟩
    obtain ⟨nu', pv', uv', f', hS1, hnu, hf⟩ := HQ.out
    have HS1 : Hid (Sv 80 TT W w1 p (met + 1) nu' pv' uv' tv f' fs K2) := hS1
    have HL3 : Hid (Lq W p (met + 1) nu' f' ext) := HL2.out nu' f' hnu hf
    have hE := HEQ.out _ _ _ _ _ _ _ HS1.out
    obtain ⟨b1, b2⟩ := HBC.out _ _ _ _ _ _ HS1.out
    clear HQ hS1 hnu hf HL2
    by_cases hxy : xs = ys
    · rw [eqw_yes hxy] at hE
      have HF : Hid (xs = ys) := hxy
      clear hxy
      go_wp2_with fail
      refine hE.mono ?_
      clear hE
      rintro e w2 ⟨rfl, hb2⟩
      have HS2 : Hid (Sv 80 TT W w2 p (met + 1) nu' pv' uv' tv f' fs K2) := HS1.out.later hb2
      clear hb2 b1 b2
      go_wp2_with fail
      go_ret
      exact ⟨true, rfl, ⟨fun _ => HF.out, fun _ => rfl⟩, _, _, _, _, _, HS2.out.drop (fun q hq => by cases hq), HL3.out, Nat.le_refl _⟩
    · rw [eqw_no hxy] at hE
      have HF : Hid (¬ xs = ys) := hxy
      clear hxy
      go_wp2_with fail
      refine hE.mono ?_
      clear hE
      rintro e w2 ⟨rfl, hb2⟩
      have HS2 : Hid (Sv 80 TT W w2 p (met + 1) nu' pv' uv' tv f' fs K2) := HS1.out.later hb2
      clear hb2 b1 b2
      go_wp2_with fail
      go_ret
      exact ⟨false, rfl, ⟨fun e => (by cases e), fun e => absurd e HF.out⟩, _, _, _, _, _, HS2.out.drop (fun q hq => by cases hq), HL3.out, Nat.le_refl _⟩

/-- Two Fns held against each other. -/
theorem fn1_any {TT : TypeId} (W w : World) (p q met nu : Nat) (pv uv tv : Value) (f : Addr → Int → Option Value) (fs : List Tg) (vs us : List Value) (x y : DFn) (fx fy ext : List Nat) (h : Sv 80 TT W w p met nu pv uv tv f fs []) (hq : W.heap[q]? = some (.cells #[.pointer (some ⟨p, 0, none⟩)] 76 (0, 0))) (hqp : q ≠ p) (ox : FnO W vs x fx) (oy : FnO W us y fy) (hL : Lq W p met nu f (fx ++ fy ++ ext)) (hm : met ≤ 16777216) (q1 : szFnD x ≤ 1048576) (q2 : szFnD y ≤ 1048576) :
    Calls Try.prog 35 #[.agg vs.toArray, .agg us.toArray, .pointer (some ⟨q, 0, none⟩)] w fun e w' => ∃ r, e = .returned (.bool r) ∧ Hid (FnPost TT W p met tv fs ext (x = y) r w') := by
  obtain ⟨v3, f1, rfl, rfl, o1⟩ := ox
  obtain ⟨u3, f2, rfl, rfl, o2⟩ := oy
  have e1 : x.Ins.length ≤ szRow szInsD x.Ins := Nat.le_add_right _ _
  have e2 : y.Ins.length ≤ szRow szInsD y.Ins := Nat.le_add_right _ _
  have q1' : x.Name.size + szRow szInsD x.Ins ≤ 1048576 := q1
  have q2' : y.Name.size + szRow szInsD y.Ins ≤ 1048576 := q2
  by_cases hh : x.Name = y.Name ∧ x.Args = y.Args ∧ x.Slots = y.Slots
  case neg =>
    obtain ⟨a3, c3, rfl⟩ := own_lenG o1
    obtain ⟨b3, d3, rfl⟩ := own_lenG o2
    refine (fn1_no _ _ _ _ _ _ a3 _ c3 b3 _ d3 q w hh).mono ?_
    rintro e w' ⟨rfl, hb⟩
    exact ⟨false, rfl, ⟨fun e => (by cases e), fun e => absurd (by subst e; exact ⟨rfl, rfl, rfl⟩) hh⟩, met, nu, pv, uv, f, h.later hb, hL.less (fun g => by simp only [List.count_append]; omega), Nat.le_succ _⟩
  obtain ⟨k0, k1, k2⟩ := hh
  have hC := fn1_yes W w p q met nu pv uv tv f fs x.Name x.Args x.Slots v3 u3 x.Ins y.Ins _ _ ext h hq hqp o1 o2 hL hm (by omega) (by omega)
  rw [← k0, ← k1, ← k2]
  refine hC.mono ?_
  rintro e w' ⟨r, rfl, HP⟩
  obtain ⟨h1, h2⟩ := HP.out
  refine ⟨r, rfl, h1.trans ⟨fun e => DFn.ext' k0 k1 k2 e, fun e => by rw [e]⟩, h2⟩

end Go.Proofs.Ytahmbnokjfkfiaa
