/- Expressions as data, to whatever depth; the law's own measure, copy and comparison of them. -/
import Derived.Test.YtpokheklplcamaaRowExpr
import Derived.Test.YtpokheklplcamaaRowClause
namespace Go.Proofs.Ytpokheklplcamaa
open Go.RowKit
set_option linter.unusedVariables false

/-- An expression of at most d storeys. -/
def Ex : Nat → Type
  | 0 => Empty
  | d + 1 => Int × Int × ByteArray × List (Ex d) × List (Ex d × Ex d)

def Ex.K {d : Nat} (e : Ex (d + 1)) : Int := e.1
def Ex.N {d : Nat} (e : Ex (d + 1)) : Int := e.2.1
def Ex.S {d : Nat} (e : Ex (d + 1)) : ByteArray := e.2.2.1
def Ex.E {d : Nat} (e : Ex (d + 1)) : List (Ex d) := e.2.2.2.1
def Ex.C {d : Nat} (e : Ex (d + 1)) : List (Ex d × Ex d) := e.2.2.2.2
def mkX {d : Nat} (k n : Int) (s : ByteArray) (es : List (Ex d)) (cs : List (Ex d × Ex d)) : Ex (d + 1) := (k, n, s, es, cs)

/-- Two by two. -/
def ClR {α : Type} (R : World → List Value → α → Prop) (w : World) (vs : List Value) (c : α × α) : Prop := ∃ p x, vs = p ++ x ∧ R w p c.1 ∧ R w x c.2
def ClO {α : Type} (O : World → List Value → α → List Nat → Prop) (w : World) (vs : List Value) (c : α × α) (fp : List Nat) : Prop := ∃ p x f g, vs = p ++ x ∧ fp = f ++ g ∧ O w p c.1 f ∧ O w x c.2 g
def ClP {α : Type} (P : α → Prop) (c : α × α) : Prop := P c.1 ∧ P c.2
def ClF {α : Type} (f : α → Nat) (c : α × α) : Nat := f c.1 + f c.2

/-- Five cells that tell an expression. -/
def ExR : (d : Nat) → World → List Value → Ex d → Prop
  | 0, _, _, _ => False
  | d + 1, w, vs, e => ∃ ve vc, vs = [.int .i64 e.K, .int .i64 e.N, .string e.S, ve, vc] ∧ RowOf 5 (ExR d) w ve e.E ∧ RowOf 10 (ClR (ExR d)) w vc e.C

/-- The same in blocks of one's own. -/
def ExO : (d : Nat) → World → List Value → Ex d → List Nat → Prop
  | 0, _, _, _, _ => False
  | d + 1, w, vs, e, fp => ∃ ve vc f g, vs = [.int .i64 e.K, .int .i64 e.N, .string e.S, ve, vc] ∧ fp = f ++ g ∧ OwnRow 5 27 (ExO d) w ve e.E f ∧ OwnRow 10 33 (ClO (ExO d)) w vc e.C g

/-- What every expression in memory is within. -/
def WfX : (d : Nat) → Ex d → Prop
  | 0, _ => False
  | d + 1, e => I64 e.K ∧ I64 e.N ∧ e.S.size ≤ maxLen ∧ WfRow (WfX d) e.E ∧ WfRow (ClP (WfX d)) e.C

/-- How great an expression is. -/
def szX : (d : Nat) → Ex d → Nat
  | 0, _ => 0
  | d + 1, e => e.S.size + szRow (szX d) e.E + szRow (ClF (szX d)) e.C

theorem ClR.lasts {α : Type} {R : World → List Value → α → Prop} (h : Lasts R) : Lasts (ClR R) := by
  rintro w w' vs c ⟨p, x, rfl, h1, h2⟩ hb
  exact ⟨p, x, rfl, h _ _ _ _ h1 hb, h _ _ _ _ h2 hb⟩
theorem ClO.lasts {α : Type} {O : World → List Value → α → List Nat → Prop} (h : LastsO O) : LastsO (ClO O) := by
  rintro w w' vs c fp ⟨p, x, f, g, rfl, rfl, h1, h2⟩ hb
  exact ⟨p, x, f, g, rfl, rfl, h _ _ _ _ _ h1 fun j hj => hb j (List.mem_append_left _ hj), h _ _ _ _ _ h2 fun j hj => hb j (List.mem_append_right _ hj)⟩
theorem ClO.reads {α : Type} {O : World → List Value → α → List Nat → Prop} {R : World → List Value → α → Prop} (h : Reads O R) : Reads (ClO O) (ClR R) := by
  rintro w vs c fp ⟨p, x, f, g, rfl, rfl, h1, h2⟩
  exact ⟨p, x, rfl, h _ _ _ _ h1, h _ _ _ _ h2⟩

theorem ExR.lasts : ∀ d, Lasts (ExR d) := by
  intro d
  induction d with
  | zero => intro w w' vs x h _; exact h.elim
  | succ d ih =>
    rintro w w' vs x ⟨ve, vc, rfl, h1, h2⟩ hb
    exact ⟨ve, vc, rfl, h1.later ih hb, h2.later (ClR.lasts ih) hb⟩
theorem ExO.lasts : ∀ d, LastsO (ExO d) := by
  intro d
  induction d with
  | zero => intro w w' vs x f h _; exact h.elim
  | succ d ih =>
    rintro w w' vs x fp ⟨ve, vc, f, g, rfl, rfl, h1, h2⟩ hb
    exact ⟨ve, vc, f, g, rfl, rfl, h1.frame ih fun j hj => hb j (List.mem_append_left _ hj), h2.frame (ClO.lasts ih) fun j hj => hb j (List.mem_append_right _ hj)⟩
theorem ExO.reads : ∀ d, Reads (ExO d) (ExR d) := by
  intro d
  induction d with
  | zero => intro w vs x f h; exact h.elim
  | succ d ih =>
    rintro w vs x fp ⟨ve, vc, f, g, rfl, rfl, h1, h2⟩
    exact ⟨ve, vc, rfl, h1.rd ih, h2.rd (ClO.reads ih)⟩

theorem ExR.shape : ∀ d w vs x, ExR d w vs x → ShExpr vs := by
  intro d w vs x h
  cases d with
  | zero => exact h.elim
  | succ d =>
    obtain ⟨ve, vc, rfl, h1, h2⟩ := h
    obtain ⟨a, c, rfl⟩ := h1.slice
    obtain ⟨a', c', rfl⟩ := h2.slice
    exact ⟨_, _, _, _, _, _, _, _, _, rfl⟩
theorem sh_two {p x : List Value} (h1 : ShExpr p) (h2 : ShExpr x) : ShClause (p ++ x) := by
  obtain ⟨_, _, _, _, _, _, _, _, _, rfl⟩ := h1
  obtain ⟨_, _, _, _, _, _, _, _, _, rfl⟩ := h2
  exact ⟨_, _, _, _, _, _, _, _, _, _, _, _, _, _, _, _, _, _, rfl⟩
theorem ClR.shape {α : Type} {R : World → List Value → α → Prop} (h : ∀ w vs x, R w vs x → ShExpr vs) : ∀ w vs c, ClR R w vs c → ShClause vs := by
  rintro w vs c ⟨p, x, rfl, h1, h2⟩
  exact sh_two (h _ _ _ h1) (h _ _ _ h2)
theorem ExO.shape : ∀ d w vs x f, ExO d w vs x f → ShExpr vs := fun d w vs x f h => ExR.shape d w vs x (ExO.reads d w vs x f h)
theorem ClO.shape {α : Type} {O : World → List Value → α → List Nat → Prop} (h : ∀ w vs x f, O w vs x f → ShExpr vs) : ∀ w vs c f, ClO O w vs c f → ShClause vs := by
  rintro w vs c fp ⟨p, x, f, g, rfl, rfl, h1, h2⟩
  exact sh_two (h _ _ _ _ h1) (h _ _ _ _ h2)

/-! The measure. -/

theorem lft_two (left : Int) (a b : Nat) (h : 0 ≤ left) : (lft left a < 0 → lft left (a + b) = -1) ∧ (¬ lft left a < 0 → lft (lft left a) b = lft left (a + b) ∧ 0 ≤ lft left a ∧ lft left a ≤ left) := by
  unfold lft
  refine ⟨fun h1 => ?_, fun h1 => ?_⟩
  · by_cases h2 : (a : Int) ≤ left
    · rw [if_pos h2] at h1; omega
    · rw [if_neg (by omega)]
  · by_cases h2 : (a : Int) ≤ left
    · rw [if_pos h2] at h1 ⊢
      refine ⟨?_, by omega, by omega⟩
      by_cases h3 : (b : Int) ≤ left - a
      · rw [if_pos h3, if_pos (by omega)]; omega
      · rw [if_neg h3, if_neg (by omega)]
    · rw [if_neg h2] at h1; omega

set_option maxHeartbeats 1000000 in
theorem szClause_of {α : Type} (R : World → List Value → α → Prop) (P : α → Prop) (f : α → Nat) (hR : Lasts R) (hS : ∀ w vs x, R w vs x → ShExpr vs) (H : SzEl 19 R P f) : SzEl 78 (ClR R) (ClP P) (ClF f) := by
  rintro vs ⟨c1, c2⟩ left w ⟨p, x, rfl, h1, h2⟩ ⟨q1, q2⟩ h0 hm
  obtain ⟨i0, i1, s2, a3, l3, c3, a4, l4, c4, rfl⟩ := hS _ _ _ h1
  obtain ⟨i5, i6, s7, a8, l8, c8, a9, l9, c9, rfl⟩ := hS _ _ _ h2
  have hA : Below w.heap.size w (w.alloc (Obj.cells #[.int .i64 i0, .int .i64 i1, .string s2, .slice a3 l3 c3, .slice a4 l4 c4, .int .i64 i5, .int .i64 i6, .string s7, .slice a8 l8 c8, .slice a9 l9 c9] 134)) := (Below.refl _ _).alloc (Nat.le_refl _) _
  obtain ⟨W, hW⟩ : ∃ W, W = w.alloc (Obj.cells #[.int .i64 i0, .int .i64 i1, .string s2, .slice a3 l3 c3, .slice a4 l4 c4, .int .i64 i5, .int .i64 i6, .string s7, .slice a8 l8 c8, .slice a9 l9 c9] 134) := ⟨_, rfl⟩
  have hWc : W.heap[w.heap.size]? = some (Obj.cells #[.int .i64 i0, .int .i64 i1, .string s2, .slice a3 l3 c3, .slice a4 l4 c4, .int .i64 i5, .int .i64 i6, .string s7, .slice a8 l8 c8, .slice a9 l9 c9] 134 (0, 0)) := by rw [hW]; exact heap_alloc_new w _
  rw [← hW] at hA
  have hC := H _ c1 left W (hR _ _ _ _ h1 hA) q1 h0 hm
  obtain ⟨L1, L2⟩ := lft_two left (f c1) (f c2) h0
  have e0 : ClF f (c1, c2) = f c1 + f c2 := rfl
  rw [e0]
  rw [hW] at hC
  have HW : Hid (W = _) := hW
  have HFR : Hid (∀ V : World, Below W.heap.size W V → R V _ c2) := fun V hV => hR _ _ _ _ (hR _ _ _ _ h2 hA) hV
  have HZ : Hid (w.heap.size < W.heap.size ∧ Below w.heap.size w W) := ⟨lt_row hWc, hA⟩
  have HWC : Hid _ := hWc
  clear hW hA hWc e0 h1 h2 q1
  obtain ⟨y, hy⟩ : ∃ y, lft left (f c1) = y := ⟨_, rfl⟩
  rw [hy] at hC L1 L2
  clear hy
  by_cases hneg : y < 0
  · have HF : Hid (lft left (f c1 + f c2) = -1) := L1 hneg
    clear L1 L2
    go_enter Try.func78, Try.ntmps78
    go_wp2_with fail
    refine hC.mono ?_
    clear hC
    rintro e w1 ⟨rfl, hb1⟩
    rw [← HW.out] at hb1
    have hb2 : Below w.heap.size w w1 := HZ.out.2.trans (hb1.mono HZ.out.2.size)
    clear hb1
    go_wp2
    go_ret
    exact ⟨tret1 HF.out.symm, hb2⟩
  · obtain ⟨E1, E2, E3⟩ := L2 hneg
    clear L1 L2
    obtain ⟨z, hz⟩ : ∃ z, lft y (f c2) = z := ⟨_, rfl⟩
    rw [hz] at E1
    have HE : Hid (z = lft left (f c1 + f c2)) := E1
    have HZN : Hid (z < 0 → z = -1) := fun h => by
      rw [← hz] at h ⊢
      unfold lft at h ⊢
      split at h
      · omega
      · rename_i h4; rw [if_neg h4]
    have hm2 : y ≤ 1048576 := by omega
    go_enter Try.func78, Try.ntmps78
    go_wp2_with fail
    refine hC.mono ?_
    clear hC
    rintro e w1 ⟨rfl, hb1⟩
    rw [← HW.out] at hb1
    have hD := H _ c2 y w1 (HFR.out w1 hb1) q2 E2 hm2
    rw [hz] at hD
    have hh := (hb1.block _ HZ.out.1).trans HWC.out
    have f5 : w1.cell? ⟨w.heap.size, 5, none⟩ = some (.int .i64 i5) := by rw [cell_of_row w1 _ 5 _ _ _ hh]; rfl
    have f6 : w1.cell? ⟨w.heap.size, 6, none⟩ = some (.int .i64 i6) := by rw [cell_of_row w1 _ 6 _ _ _ hh]; rfl
    have f7 : w1.cell? ⟨w.heap.size, 7, none⟩ = some (.string s7) := by rw [cell_of_row w1 _ 7 _ _ _ hh]; rfl
    have f8 : w1.cell? ⟨w.heap.size, 8, none⟩ = some (.slice a8 l8 c8) := by rw [cell_of_row w1 _ 8 _ _ _ hh]; rfl
    have f9 : w1.cell? ⟨w.heap.size, 9, none⟩ = some (.slice a9 l9 c9) := by rw [cell_of_row w1 _ 9 _ _ _ hh]; rfl
    have hb2 : Below w.heap.size w w1 := HZ.out.2.trans (hb1.mono HZ.out.2.size)
    clear hb1 hh hz E1
    go_wp2_with fail
    refine hD.mono ?_
    clear hD f5 f6 f7 f8 f9
    rintro e w2 ⟨rfl, hb3⟩
    have hb4 : Below w.heap.size w w2 := hb2.trans (hb3.mono hb2.size)
    clear hb3 hb2
    by_cases hn2 : z < 0
    · have e1 := HZN.out hn2
      subst e1
      go_wp2
      go_ret
      exact ⟨tret1 HE.out, hb4⟩
    · go_wp2
      go_ret
      exact ⟨tret1 HE.out, hb4⟩

set_option maxHeartbeats 1000000 in
theorem szExpr_of (d : Nat) (HE : SzLs 44 5 (ExR d) (WfX d) (szX d)) (HC : SzLs 45 10 (ClR (ExR d)) (ClP (WfX d)) (ClF (szX d))) : SzEl 19 (ExR (d + 1)) (WfX (d + 1)) (szX (d + 1)) := by
  rintro vs x left w ⟨ve, vc, rfl, h1, h2⟩ ⟨w1, w2, w3, w4, w5⟩ h0 hm
  obtain ⟨a3, c3, rfl⟩ := h1.slice
  obtain ⟨a4, c4, rfl⟩ := h2.slice
  obtain ⟨l3, e3⟩ : ∃ l, x.E.length = l := ⟨_, rfl⟩
  obtain ⟨l4, e4⟩ : ∃ l, x.C.length = l := ⟨_, rfl⟩
  rw [e3] at h1 ⊢
  rw [e4] at h2 ⊢
  have hs : x.S.size ≤ 9223372036854775807 := by unfold maxLen at w3; omega
  obtain ⟨W, hW⟩ : ∃ W, W = w.alloc (Obj.cells #[.int .i64 x.K, .int .i64 x.N, .string x.S, .slice a3 l3 c3, .slice a4 l4 c4] 38) := ⟨_, rfl⟩
  have hA : Below w.heap.size w W := by rw [hW]; exact (Below.refl _ _).alloc (Nat.le_refl _) _
  have hWc : W.heap[w.heap.size]? = some (Obj.cells #[.int .i64 x.K, .int .i64 x.N, .string x.S, .slice a3 l3 c3, .slice a4 l4 c4] 38 (0, 0)) := by rw [hW]; exact heap_alloc_new w _
  obtain ⟨A, hA0⟩ : ∃ A, szRow (szX d) x.E = A := ⟨_, rfl⟩
  obtain ⟨B, hB0⟩ : ∃ B, szRow (ClF (szX d)) x.C = B := ⟨_, rfl⟩
  have e0 : szX (d + 1) x = x.S.size + A + B := by rw [← hA0, ← hB0]; rfl
  rw [e0]
  have HEE := HE _ _ (left - x.S.size) W (h1.later (ExR.lasts d) hA) w4
  have HCC : Hid (∀ V : World, Below W.heap.size W V → ∀ l : Int, 0 ≤ l → l ≤ 1048576 → _) := fun V hV l p1 p2 => HC _ _ l V ((h2.later (ClR.lasts (ExR.lasts d)) hA).later (ClR.lasts (ExR.lasts d)) hV) w5 p1 p2
  rw [hA0] at HEE
  rw [hB0] at HCC
  obtain ⟨K, hK⟩ : ∃ K, x.K = K := ⟨_, rfl⟩
  obtain ⟨N, hN⟩ : ∃ N, x.N = N := ⟨_, rfl⟩
  obtain ⟨S, hS⟩ : ∃ S, x.S = S := ⟨_, rfl⟩
  rw [hK, hN, hS] at hW hWc
  rw [hS] at HEE hs
  rw [hK, hN, hS]
  clear e0 hA0 hB0 w1 w2 w3 w4 w5 h1 h2 e3 e4 HE HC hK hN hS
  by_cases hlt : left < S.size
  · have HF : Hid ((-1 : Int) = lft left (S.size + A + B)) := by unfold lft; rw [if_neg (by omega)]; exact rfl
    rw [hW] at hA
    clear HEE hWc HCC
    go_enter Try.func19, Try.ntmps19
    go_wp2
    go_ret
    exact ⟨tret1 HF.out, hA⟩
  · have hC := HEE (by omega) (by omega)
    obtain ⟨L1, L2⟩ := lft_two (left - S.size) A B (by omega)
    have L0 : lft (left - S.size) (A + B) = lft left (S.size + A + B) := by
      unfold lft
      by_cases h : ((A + B : Nat) : Int) ≤ left - S.size
      · rw [if_pos h, if_pos (by omega)]; omega
      · rw [if_neg h, if_neg (by omega)]
    rw [L0] at L1 L2
    rw [hW] at hC
    have HW : Hid (W = _) := hW
    have HZ : Hid (w.heap.size < W.heap.size ∧ Below w.heap.size w W) := ⟨lt_row hWc, hA⟩
    have HWC : Hid _ := hWc
    clear hW hA hWc HEE L0
    obtain ⟨y, hy⟩ : ∃ y, lft (left - S.size) A = y := ⟨_, rfl⟩
    rw [hy] at hC L1 L2
    clear hy
    by_cases hneg : y < 0
    · have HF : Hid (lft left (S.size + A + B) = -1) := L1 hneg
      clear L1 L2
      go_enter Try.func19, Try.ntmps19
      go_wp2_with fail
      refine hC.mono ?_
      clear hC
      rintro e w1 ⟨rfl, hb1⟩
      rw [← HW.out] at hb1
      have hb2 : Below w.heap.size w w1 := HZ.out.2.trans (hb1.mono HZ.out.2.size)
      clear hb1
      go_wp2
      go_ret
      exact ⟨tret1 HF.out.symm, hb2⟩
    · obtain ⟨E1, E2, E3⟩ := L2 hneg
      clear L1 L2
      obtain ⟨z, hz⟩ : ∃ z, lft y B = z := ⟨_, rfl⟩
      rw [hz] at E1
      have HE : Hid (z = lft left (S.size + A + B)) := E1
      have HZN : Hid (z < 0 → z = -1) := fun h => by
        rw [← hz] at h ⊢
        unfold lft at h ⊢
        split at h
        · omega
        · rename_i h4; rw [if_neg h4]
      have hm2 : y ≤ 1048576 := by omega
      go_enter Try.func19, Try.ntmps19
      go_wp2_with fail
      refine hC.mono ?_
      clear hC
      rintro e w1 ⟨rfl, hb1⟩
      rw [← HW.out] at hb1
      have hD := HCC.out w1 hb1 y E2 hm2
      rw [hz] at hD
      have hh := (hb1.block _ HZ.out.1).trans HWC.out
      have f4 : w1.cell? ⟨w.heap.size, 4, none⟩ = some (.slice a4 l4 c4) := by rw [cell_of_row w1 _ 4 _ _ _ hh]; rfl
      have hb2 : Below w.heap.size w w1 := HZ.out.2.trans (hb1.mono HZ.out.2.size)
      clear hb1 hh hz E1 HCC
      go_wp2_with fail
      refine hD.mono ?_
      clear hD f4
      rintro e w2 ⟨rfl, hb3⟩
      have hb4 : Below w.heap.size w w2 := hb2.trans (hb3.mono hb2.size)
      clear hb3 hb2
      by_cases hn2 : z < 0
      · have e1 := HZN.out hn2
        subst e1
        go_wp2
        go_ret
        exact ⟨tret1 HE.out, hb4⟩
      · go_wp2
        go_ret
        exact ⟨tret1 HE.out, hb4⟩

theorem szExpr_any : ∀ d, SzEl 19 (ExR d) (WfX d) (szX d) := by
  intro d
  induction d with
  | zero => intro vs x left w h; exact h.elim
  | succ d ih => exact szExpr_of d (szExprS_of _ _ _ (ExR.lasts d) (ExR.shape d) ih) (szClauseS_of _ _ _ (ClR.lasts (ExR.lasts d)) (ClR.shape (ExR.shape d)) (szClause_of _ _ _ (ExR.lasts d) (ExR.shape d) ih))

end Go.Proofs.Ytpokheklplcamaa
